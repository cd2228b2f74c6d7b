package lang

import (
	"iter"
	"strings"
)

const marks = "()[]{},;:=+#"

// tokens are those of a text, one after the other. Behind them comes a plain one, which is where the text ends, or where there is no token, again and again.
func tokens(s string) iter.Seq[token] {
	return func(yield func(token) bool) {
		end := 0
		for {
			var t token
			t, end = tokenAt(s, past(s, end, isBlank))
			if !yield(t) {
				return
			}
		}
	}
}

// tokenAt returns the token that begins at a place of a text, as long as can be, and the place behind it: the same one, if there is none.
func tokenAt(s string, at int) (token, int) {
	here := plain{at}
	if at == len(s) {
		return here, at
	}
	switch c := s[at]; {
	case isLetter(c):
		end := past(s, at, isOfWord)
		called, digits := nameOf(s[at:end])
		return word{here, called, digits}, end
	case c == '"':
		if letters, end := quotedAt(s, at+1); end > 0 {
			return quoted{here, letters}, end
		}
	case c == '-' || isDigit(c):
		if end := endOfNumber(s, at); end > 0 {
			return number{here, s[at:end]}, end
		}
	case strings.IndexByte(marks, c) >= 0:
		return mark{here, s[at : at+1]}, at + 1
	}
	return here, at
}

// endOfNumber returns the place behind the number that begins at a place; 0 if there is none.
func endOfNumber(s string, at int) int {
	first := past(s, at, isMinus)
	end := past(s, first, isDigit)
	switch {
	case first > at+1 || end == first:
		return 0
	case s[first] != '0':
		return end
	case first > at:
		return 0
	}
	return first + 1 // no digit stands behind a 0
}

// quotedAt returns the bytes of a string ahead of whose first one stands a quote, and the place behind it; 0 if it has no end, or a byte that no string has.
func quotedAt(s string, at int) (string, int) {
	var letters []byte
	for ; at < len(s) && s[at] >= ' ' && s[at] <= '~'; at++ {
		if s[at] == '"' {
			return string(letters), at + 1
		}
		if s[at] == '\\' {
			at++
			if at == len(s) || s[at] != '"' && s[at] != '\\' {
				break
			}
		}
		letters = append(letters, s[at])
	}
	return "", 0
}

// nameOf takes a word apart into its letters and the number behind them, if it is of such parts; if not, all of it is the name.
func nameOf(s string) (called name, digits string) {
	at := past(s, 0, isLetter)
	end := endOfNumber(s, at)
	if end < len(s) {
		return name{letters: s}, ""
	}
	return name{s[:at], true}, s[at:]
}

// past returns the first place, from one on, whose byte is not in a class.
func past(s string, at int, in func(byte) bool) int {
	for at < len(s) && in(s[at]) {
		at++
	}
	return at
}

func isBlank(c byte) bool { return c == ' ' || c == '\n' }

func isLetter(c byte) bool { return c >= 'a' && c <= 'z' }

func isDigit(c byte) bool { return c >= '0' && c <= '9' }

func isOfWord(c byte) bool { return isLetter(c) || isDigit(c) }

func isMinus(c byte) bool { return c == '-' }
