package value

import (
	"strconv"

	"deltaworks/api"
)

// written is a valid value that is written: its text, or its key, is put behind bytes.
type written interface {
	text(b []byte) []byte
	key(b []byte) []byte
}

// word, letters, tuple and tagged are the values of each kind. A tagged value has parts as a tuple has them: one.
type (
	word    struct{ of *api.Value }
	letters struct{ of *api.Value }
	tuple   struct{ of *api.Value }
	tagged  struct{ tuple }
)

// form returns a valid value as what its kind writes.
func form(v *api.Value) written {
	switch v.Kind {
	case api.ValueInt:
		return word{v}
	case api.ValueText:
		return letters{v}
	case api.ValueTuple:
		return tuple{v}
	}
	return tagged{tuple{v}}
}

func (w word) text(b []byte) []byte { return strconv.AppendInt(b, int64(w.of.N), 10) }

func (w word) key(b []byte) []byte {
	n := uint32(w.of.N - api.WordLow)
	return append(b, keyWord, byte(n>>24), byte(n>>16), byte(n>>8), byte(n))
}

func (l letters) text(b []byte) []byte {
	b = append(b, '"')
	for i := range len(l.of.S) {
		c := l.of.S[i]
		if c == '"' || c == '\\' {
			b = append(b, '\\')
		}
		b = append(b, c)
	}
	return append(b, '"')
}

func (l letters) key(b []byte) []byte {
	b = append(b, keyText)
	b = append(b, l.of.S...)
	return append(b, keyEnd)
}

func (t tuple) text(b []byte) []byte {
	f := frames[api.TypeTuple]
	b = append(b, f.open...)
	b = t.parts(b, f.between, written.text)
	return append(b, f.end...)
}

func (t tuple) key(b []byte) []byte {
	b = append(b, keyTuple)
	b = t.parts(b, "", written.key)
	return append(b, keyEnd)
}

// parts writes each part, and between each two what is between them.
func (t tuple) parts(b []byte, between string, write func(written, []byte) []byte) []byte {
	for i := range t.of.L {
		if i > 0 {
			b = append(b, between...)
		}
		b = write(form(&t.of.L[i]), b)
	}
	return b
}

func (t tagged) text(b []byte) []byte {
	b = append(b, '#')
	b = strconv.AppendInt(b, int64(t.of.N), 10)
	b = append(b, ' ')
	return t.parts(b, "", written.text)
}

func (t tagged) key(b []byte) []byte {
	b = append(b, keyTag, byte(t.of.N+1))
	return t.parts(b, "", written.key)
}

// typeText puts the text of a valid type behind bytes.
func typeText(b []byte, t api.Type) []byte {
	f := frames[t.Kind]
	b = append(b, f.open...)
	for i, part := range t.L {
		if i > 0 {
			b = append(b, f.between...)
		}
		b = typeText(b, part)
	}
	return append(b, f.end...)
}
