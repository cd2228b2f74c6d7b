package value_test

import (
	"strings"
	"testing"

	"deltaworks/api"
	"deltaworks/value"
)

// TestKey: P1.5 and P1.6, of keys.
func TestKey(t *testing.T) {
	for i, x := range []struct {
		v api.Value
		s string
	}{
		{num(0), "\x01\x80\x00\x00\x00"},
		{num(1), "\x01\x80\x00\x00\x01"},
		{num(-1), "\x01\x7f\xff\xff\xff"},
		{num(0x01020304), "\x01\x81\x02\x03\x04"},
		{num(api.WordLow), "\x01\x00\x00\x00\x00"},
		{num(api.WordHigh), "\x01\xff\xff\xff\xff"},
		{text(""), "\x02\x00"},
		{text("a\" ~\\"), "\x02a\" ~\\\x00"},
		{text(strings.Repeat("a", 100)), "\x02" + strings.Repeat("a", 100) + "\x00"},
		{tuple(), "\x03\x00"},
		{tuple(text("a")), "\x03\x02a\x00\x00"},
		{tuple(num(0), tuple()), "\x03\x01\x80\x00\x00\x00\x03\x00\x00"},
		{tag(0, tuple()), "\x04\x01\x03\x00"},
		{tag(7, tag(2, text("b"))), "\x04\x08\x04\x03\x02b\x00"},
		{tuple(times(8, tuple())...), "\x03" + strings.Repeat("\x03\x00", 8) + "\x00"},
		{tower(6), "\x03\x03\x03\x03\x03\x01\x80\x00\x00\x01\x00\x00\x00\x00\x00"},
	} {
		s, e := value.Key(x.v)
		v, f := value.OfKey(x.s)
		if s != x.s || e != api.OK || !same(v, x.v) || f != api.OK {
			t.Errorf("%d: %q, %d, %v, %d", i, s, e, v, f)
		}
	}
	for i, v := range invalid() {
		if s, e := value.Key(v); s != "" || e != api.ErrArg {
			t.Errorf("invalid %d: %q, %d", i, s, e)
		}
	}
}

// TestOfKey: P1.6, of bytes that are no key.
func TestOfKey(t *testing.T) {
	for _, s := range []string{
		"", "\x00", "\x05\x00", "\xff", "1",
		"\x01", "\x01\x00\x00\x00", "\x01\x00\x00\x00\x00\x00",
		"\x02", "\x02a", "\x02\x1f\x00", "\x02\x7f\x00", "\x02\x00\x00", "\x02a\x00a\x00", "\x02" + strings.Repeat("a", 101) + "\x00",
		"\x03", "\x03\x00\x00", "\x03\x05\x00\x00", "\x03\x01\x00", "\x03\x02\x00", "\x03" + strings.Repeat("\x02\x00", 9) + "\x00",
		"\x03\x03\x03\x03\x03\x03\x01\x80\x00\x00\x01\x00\x00\x00\x00\x00\x00",
		"\x04", "\x04\x01", "\x04\x00\x03\x00", "\x04\x09\x03\x00", "\x04\xff\x03\x00", "\x04\x01\x03\x00\x00", "\x04\x01\x03",
		"\x03" + strings.Repeat("\x03"+strings.Repeat("\x02\x00", 8)+"\x00", 7) + "\x00",
		strings.Repeat("\x03", 6500), strings.Repeat("\x04\x01", 3250), strings.Repeat("\x01", 6500), "\x02" + strings.Repeat("a", 6498) + "\x00",
	} {
		if v, e := value.OfKey(s); !same(v, api.Value{}) || e != api.ErrForm {
			t.Errorf("%.30q: %v, %d", s, v, e)
		}
	}
	for _, s := range []string{strings.Repeat("\x01", 6501), strings.Repeat("\x03", 6501), strings.Repeat("\x00", 1<<20)} {
		if v, e := value.OfKey(s); !same(v, api.Value{}) || e != api.ErrLong {
			t.Errorf("%.30q: %v, %d", s, v, e)
		}
	}
}

// TestKeysAreInOrder: P1.9.
func TestKeysAreInOrder(t *testing.T) {
	l := manyValues(t)
	keys := make([]string, len(l))
	for i, v := range l {
		s, e := value.Key(v)
		if e != api.OK {
			t.Fatalf("%d: %d", i, e)
		}
		keys[i] = s
	}
	for i, v := range l {
		for k, w := range l {
			n, _ := value.Compare(v, w)
			if n != strings.Compare(keys[i], keys[k]) || n != 0 && strings.HasPrefix(keys[i], keys[k]) {
				t.Fatalf("%q, %q: %d", keys[i], keys[k], n)
			}
		}
	}
}

// TestKeysThereAndBack: P1.10, of keys.
func TestKeysThereAndBack(t *testing.T) {
	keys := map[string]api.Value{}
	for i, v := range manyValues(t) {
		s, e := value.Key(v)
		w, f := value.OfKey(s)
		if e != api.OK || f != api.OK || !same(v, w) {
			t.Fatalf("%d: %q, %d, %v, %d", i, s, e, w, f)
		}
		if w, ok := keys[s]; ok && !same(v, w) {
			t.Fatalf("%d: %q twice", i, s)
		}
		keys[s] = v
	}
}

// TestShortKeys: P1.6 and P1.10: whatever is read is what is written of it.
func TestShortKeys(t *testing.T) {
	found := 0
	eachString("\x00\x01\x02\x03\x04\x05\x08\x09a\xff", 5, func(s string) {
		v, e := value.OfKey(s)
		w, _ := value.Key(v)
		if e == api.OK && w == s {
			found++
		} else if e != api.ErrForm || !same(v, api.Value{}) {
			t.Errorf("%q: %v, %d", s, v, e)
		}
	})
	if found == 0 {
		t.Error("nothing is read")
	}
}

// TestAlteredKeys: P1.6, P1.9 and P1.10, of keys of which one byte is another one, and of what keys begin with.
func TestAlteredKeys(t *testing.T) {
	s, _ := value.Key(sample)
	for i := range len(s) {
		if _, e := value.OfKey(s[:i]); e != api.ErrForm {
			t.Errorf("%q: %d", s[:i], e)
		}
		for c := range 256 {
			x := s[:i] + string([]byte{byte(c)}) + s[i+1:]
			v, e := value.OfKey(x)
			if w, _ := value.Key(v); e != api.ErrForm && (e != api.OK || w != x) {
				t.Errorf("%q: %v, %d", x, v, e)
			}
		}
	}
}
