package lang

import (
	"strconv"
	"strings"

	"deltaworks/api"
	"deltaworks/lists"
	"deltaworks/refuse"
)

// reader reads tokens, of which the one at next comes next. When it refuses, wrong is the place of what it refuses.
type reader struct {
	forms [14]form
	words map[use]meaning
	list  []token
	next  int
	wrong int
}

// read returns what whole reads of all of a text, or the place and the error with which it is refused.
func read[T any](s string, whole func(*reader) T) (T, int, api.Errno) {
	r := &reader{forms: forms(), words: meanings()}
	made, e := refuse.Attempt(func() T {
		refuse.Unless(len(s) <= api.LangText, api.ErrLong)
		r.load(s)
		made := whole(r)
		r.unless(r.comes().place() == len(s), r.comes(), api.ErrForm)
		return made
	})
	return made, r.wrong, e
}

// load keeps the tokens of a text, up to the plain one, which is behind all that can be read.
func (r *reader) load(s string) {
scan:
	for t := range tokens(s) {
		r.list = append(r.list, t)
		switch t.(type) {
		case plain:
			break scan
		}
	}
}

// unless refuses what begins with a token if it is not so.
func (r *reader) unless(so bool, t token, e api.Errno) {
	if !so {
		r.wrong = t.place()
	}
	refuse.Unless(so, e)
}

// comes returns the token that comes next.
func (r *reader) comes() token { return r.list[r.next] }

// take returns the token that comes next, and goes on behind it.
func (r *reader) take() token {
	t := r.comes()
	r.next++
	return t
}

// has reports whether a word or a mark comes next.
func (r *reader) has(letters string) bool { return r.comes().called() == name{letters: letters} }

// skip goes on behind a word or a mark, if it comes next, and reports whether it does.
func (r *reader) skip(letters string) bool {
	here := r.has(letters)
	if here {
		r.next++
	}
	return here
}

// need goes on behind a word or a mark, which must come next.
func (r *reader) need(letters string) {
	r.unless(r.has(letters), r.comes(), api.ErrForm)
	r.next++
}

// hasNumbered reports whether a word comes next of which a number is a part.
func (r *reader) hasNumbered(letters string) bool { return r.comes().called() == name{letters, true} }

// numbered returns the number of such a word, which must come next.
func (r *reader) numbered(letters string) int {
	r.unless(r.hasNumbered(letters), r.comes(), api.ErrForm)
	w, _ := r.take().(word)
	return r.count(w, w.digits, numberDigits)
}

// defined needs the word that a line begins with, by the number of the lines of its kind ahead of it.
func (r *reader) defined(letters string, n int) {
	t := r.comes()
	r.unless(r.numbered(letters) == n, t, api.ErrForm)
}

// number goes on behind a number, which must come next, and returns it.
func (r *reader) number() number {
	n, is := r.comes().(number)
	r.unless(is, r.comes(), api.ErrForm)
	r.next++
	return n
}

// word returns the word that digits of a token are.
func (r *reader) word(t token, digits string) int {
	w, e := strconv.ParseInt(digits, 10, 32)
	r.unless(e == nil, t, api.ErrRange)
	return int(w)
}

// count returns the number that digits of a token are, which are not more than most.
func (r *reader) count(t token, digits string, most int) int {
	r.unless(len(strings.TrimPrefix(digits, "-")) <= most, t, api.ErrRange)
	n, _ := strconv.Atoi(digits) // so few digits are a number
	return n
}

// means returns what a word means where it stands; elsewhere it may mean something else.
func (r *reader) means(t token, where int) meaning {
	m, known := r.words[use{where, t.called()}]
	r.unless(known, t, api.ErrForm)
	return m
}

// listed reads a list, with a mark between each two elements.
func listed[T any](r *reader, between string, many bounds, element func() T) []T {
	var l []T
	for more := true; more; {
		l = append(l, element())
		more = len(l) < many.most && r.has(between) || len(l) < many.least
		if more {
			r.need(between)
		}
	}
	return lists.Joined(l)
}

// upTo reads a list, and the mark at its end.
func upTo[T any](r *reader, end, between string, many bounds, element func() T) []T {
	if many.least == 0 && r.skip(end) {
		return nil
	}
	l := listed(r, between, many, element)
	r.need(end)
	return l
}
