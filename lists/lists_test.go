package lists_test

import (
	"slices"
	"strconv"
	"testing"

	"deltaworks/lists"
)

// TestChanged: elements are changed in order, each once, and nothing is done where there are none.
func TestChanged(t *testing.T) {
	l := []int{3, 1, 2}
	var asked []int
	made := lists.Changed(l, func(n int) string {
		asked = append(asked, n)
		return strconv.Itoa(n)
	})
	if !slices.Equal(made, []string{"3", "1", "2"}) || !slices.Equal(asked, l) || cap(made) != 3 {
		t.Errorf("%v, asked %v", made, asked)
	}
	for _, none := range [][]int{nil, {}, l[:0]} {
		if made := lists.Changed(none, strconv.Itoa); made != nil {
			t.Errorf("%v", made)
		}
	}
}

// TestJoined: what is joined is new, also where a list has room behind its end.
func TestJoined(t *testing.T) {
	room := []int{1, 2, 3, 4}
	for _, x := range []struct{ l, more, want []int }{
		{nil, nil, nil},
		{room[:0], room[4:], nil},
		{room[:2], nil, []int{1, 2}},
		{nil, room[:2], []int{1, 2}},
		{room[:2], []int{7, 8, 9}, []int{1, 2, 7, 8, 9}},
		{room[:1], room[:1], []int{1, 1}},
	} {
		made := lists.Joined(x.l, x.more...)
		if !slices.Equal(made, x.want) || (made == nil) != (x.want == nil) || cap(made) != len(made) {
			t.Errorf("%v and %v: %v", x.l, x.more, made)
		}
		for i := range made {
			made[i] = -1
		}
	}
	if !slices.Equal(room, []int{1, 2, 3, 4}) {
		t.Errorf("%v", room)
	}
}

// TestAll: all elements are asked about, in order, as far as the first one that is not right.
func TestAll(t *testing.T) {
	var asked []int
	small := func(n int) bool {
		asked = append(asked, n)
		return n < 5
	}
	if !lists.All(nil, small) || !lists.All([]int{1, 4}, small) || lists.All([]int{2, 5, 3}, small) {
		t.Error("not so")
	}
	if !slices.Equal(asked, []int{1, 4, 2, 5}) {
		t.Errorf("%v", asked)
	}
}
