package value

import (
	"strconv"
	"strings"

	"deltaworks/api"
)

// source is bytes that are read, as far as at.
type source struct {
	bytes string
	at    int
}

// refused is what reading panics with where bytes are not of the form.
type refused struct{}

// read returns what from makes of all bytes of s, if it is right.
func read[T any](s string, most int, from func(*source) T, check func(T) api.Errno) (t T, e api.Errno) {
	if len(s) > most {
		return t, api.ErrLong
	}
	defer func() {
		if recover() != nil {
			var none T
			t, e = none, api.ErrForm
		}
	}()
	src := &source{bytes: s}
	t = from(src)
	if src.at < len(s) || check(t) != api.OK {
		panic(refused{})
	}
	return t, api.OK
}

// next takes a byte.
func (s *source) next() byte {
	if s.at == len(s.bytes) {
		panic(refused{})
	}
	c := s.bytes[s.at]
	s.at++
	return c
}

// skip takes the bytes w, if they come next, and reports whether they do.
func (s *source) skip(w string) bool {
	if !strings.HasPrefix(s.bytes[s.at:], w) {
		return false
	}
	s.at += len(w)
	return true
}

// need takes the bytes w, which must come next.
func (s *source) need(w string) {
	if !s.skip(w) {
		panic(refused{})
	}
}

// parts takes the parts of a list, behind what opens it, and what ends it.
func parts[T any](s *source, f frame, part func(*source) T) []T {
	var room [api.Wide]T
	n := 0
	for !s.skip(f.end) {
		if n == len(room) {
			panic(refused{})
		}
		if n > 0 {
			s.need(f.between)
		}
		room[n] = part(s)
		n++
	}
	return list(room[:n]...)
}

// kind is how values of a kind are read: their texts begin with one of the bytes of first, and their keys with the byte begin.
type kind struct {
	first     string
	begin     byte
	text, key func(*source) api.Value
}

func kinds() [4]kind {
	return [...]kind{
		{"-0123456789", keyWord, (*source).wordText, (*source).wordKey},
		{"\"", keyText, (*source).lettersText, (*source).lettersKey},
		{"(", keyTuple, (*source).tupleText, (*source).tupleKey},
		{"#", keyTag, (*source).taggedText, (*source).taggedKey},
	}
}

// valueOfText takes the text of a value.
func (s *source) valueOfText() api.Value {
	c := s.next()
	for _, k := range kinds() {
		if strings.IndexByte(k.first, c) >= 0 {
			return k.text(s)
		}
	}
	panic(refused{})
}

// valueOfKey takes the key of a value.
func (s *source) valueOfKey() api.Value {
	c := s.next()
	for _, k := range kinds() {
		if k.begin == c {
			return k.key(s)
		}
	}
	panic(refused{})
}

// wordText takes a number, of which the first byte is taken.
func (s *source) wordText() api.Value {
	s.at--
	return api.Value{N: s.number()}
}

// number takes a number. Only what a number is written as is accepted.
func (s *source) number() int {
	from := s.at
	s.skip("-")
	for s.at < len(s.bytes) && s.bytes[s.at] >= '0' && s.bytes[s.at] <= '9' {
		s.at++
	}
	digits := s.bytes[from:s.at]
	n, err := strconv.Atoi(digits)
	if err != nil || strconv.Itoa(n) != digits {
		panic(refused{})
	}
	return n
}

func (s *source) wordKey() api.Value {
	n := 0
	for range 4 {
		c := s.next()
		n = n<<8 | int(c)
	}
	return api.Value{N: n + api.WordLow}
}

func (s *source) lettersText() api.Value {
	var b []byte
	take := s.next
	for c := take(); c != '"'; c = take() {
		if c == '\\' {
			c = take()
			if c != '"' && c != '\\' {
				panic(refused{})
			}
		}
		b = append(b, c)
	}
	return api.Value{Kind: api.ValueText, S: string(b)}
}

func (s *source) lettersKey() api.Value {
	var b []byte
	take := s.next
	for c := take(); c != keyEnd; c = take() {
		b = append(b, c)
	}
	return api.Value{Kind: api.ValueText, S: string(b)}
}

func (s *source) tupleText() api.Value {
	return api.Value{Kind: api.ValueTuple, L: parts(s, frames[api.TypeTuple], (*source).valueOfText)}
}

func (s *source) tupleKey() api.Value {
	return api.Value{Kind: api.ValueTuple, L: parts(s, frame{end: "\x00"}, (*source).valueOfKey)}
}

func (s *source) taggedText() api.Value {
	n := s.number()
	s.need(" ")
	return api.Value{Kind: api.ValueTag, N: n, L: list(s.valueOfText())}
}

func (s *source) taggedKey() api.Value {
	c := s.next()
	return api.Value{Kind: api.ValueTag, N: int(c) - 1, L: list(s.valueOfKey())}
}

// typeOfText takes the text of a type.
func (s *source) typeOfText() api.Type {
	for k, f := range frames {
		if s.skip(f.open) {
			return api.Type{Kind: k, L: parts(s, f, (*source).typeOfText)}
		}
	}
	panic(refused{})
}
