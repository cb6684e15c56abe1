package flow

import (
	"slices"
	"testing"

	"changeling/api"
	"changeling/script"
)

// These tests look into pipes, of which no call tells: what a work hands on.

// opened is a flow of a text's job, with room for one message a pipe.
func opened(t *testing.T, text string, first int64) *Flow {
	t.Helper()
	j, _, e := script.Parse(text)
	if e != api.OK {
		t.Fatal(e)
	}
	f, e := New(j, nil, first, 1)
	if e != api.OK {
		t.Fatal(e)
	}
	return f
}

// hands asks Go of a work that can go on, and asks for these messages in its pipes, in the order of the works that they lead to.
func (f *Flow) hands(t *testing.T, i int, want ...api.Msg) {
	t.Helper()
	if _, is := f.Go(i); !is {
		t.Fatalf("the work %d can't go on", i)
	}
	var got []api.Msg
	for _, to := range f.works[i].to {
		m, _ := to.Head()
		got = append(got, m)
	}
	same := func(a, b api.Msg) bool { return a.Seq == b.Seq && a.Bar == b.Bar && slices.Equal(a.L, b.L) }
	if !slices.EqualFunc(got, want, same) {
		t.Errorf("the work %d handed on %v, want %v", i, got, want)
	}
}

func msg(seq int64, l ...api.Rec) api.Msg { return api.Msg{Seq: seq, L: l} }

func rec(pos, key, val int64) api.Rec { return api.Rec{Pos: pos, Key: key, Val: val} }

// TestHandedParts: of a record in its part a first work hands on the record, to the work of its place of each node that reads it; of another one it hands on none.
func TestHandedParts(t *testing.T) {
	for part := range 2 {
		f := opened(t, "par 3\ns source\na map s : val\nb map s : -val\nu union s b a\nt sink u", 0)
		f.Feed(part, 3, 7)
		l := []api.Msg{msg(0), msg(0, rec(1, 3, 7)), msg(0)}
		f.hands(t, part, slices.Concat(l, l, l)...)
		f.hands(t, 1-part, make([]api.Msg, 9)...)
		f.hands(t, 2, msg(0), msg(0), msg(0))
		f.hands(t, 3, msg(0), msg(0, rec(1, 3, 7)), msg(0))
		f.hands(t, 4, msg(0), msg(0), msg(0))
		f.hands(t, 5, msg(0), msg(0), msg(0))
		f.hands(t, 6, msg(0), msg(0, rec(1, 3, -7)), msg(0))
		f.hands(t, 7, msg(0), msg(0), msg(0))
		f.hands(t, 8, msg(0), msg(0))
		f.hands(t, 9, msg(0, rec(8, 3, 7), rec(9, 3, -7), rec(10, 3, 7)), msg(0))
		f.hands(t, 10, msg(0), msg(0))
		f.hands(t, 11)
		f.hands(t, 12)
	}
}

// TestHandedSpread: records of one message go to several works, and to none.
func TestHandedSpread(t *testing.T) {
	f := opened(t, "par 4\ns source\nf flat s : val\nk key f : val\nm map k : val\nt sink m", 0)
	f.Feed(0, 0, 5) // 5, 6, 7 and 8
	f.Feed(1, 0, 0)
	f.hands(t, 0, msg(0, rec(1, 0, 5)), msg(0), msg(0), msg(0))
	f.hands(t, 1, msg(0), msg(0), msg(0), msg(0))
	f.hands(t, 2, msg(0, rec(8, 0, 5), rec(9, 0, 6), rec(10, 0, 7), rec(11, 0, 8)), msg(0), msg(0), msg(0))
	for i := 3; i < 6; i++ {
		f.hands(t, i, msg(0), msg(0), msg(0), msg(0))
	}
	f.hands(t, 6, msg(0, rec(11, 8, 8)), msg(0), msg(0, rec(8, 5, 5)), msg(0, rec(9, 6, 6), rec(10, 7, 7)))
	for i := 7; i < 10; i++ {
		f.hands(t, i, msg(0), msg(0), msg(0), msg(0))
	}
	f.hands(t, 10, msg(0, rec(11, 8, 8)), msg(0))
	f.hands(t, 11, msg(0), msg(0))
	f.hands(t, 12, msg(0), msg(0, rec(8, 5, 5)))
	f.hands(t, 13, msg(0), msg(0, rec(9, 6, 6), rec(10, 7, 7)))
	f.hands(t, 14)
	f.hands(t, 15)
	l := []api.Msg{msg(1), msg(1), msg(1), msg(1)}
	f.hands(t, 0, l...)
	f.hands(t, 1, msg(1, rec(1, 0, 0)), msg(1), msg(1), msg(1))
	f.hands(t, 2, l...)
}

// TestHandedBar: of a bar each pipe from a work has the same message.
func TestHandedBar(t *testing.T) {
	f := opened(t, "par 2\ns source\nr reduce s : acc + val\nu union r s\nt sink u", 6)
	f.Feed(1, 5, 2)
	for i := range f.Works() {
		f.Go(i)
	}
	f.Bar(9)
	m := api.Msg{Seq: 1, Bar: 9} // of the flow's first record the message's number is 0
	f.hands(t, 0, m, m, m, m)
	f.hands(t, 1, m, m, m, m)
	for i := 2; i < 6; i++ {
		f.hands(t, i, m, m)
	}
	f.hands(t, 6)
	f.hands(t, 7)
}

// TestTakenGone: what both first works have taken is not kept.
func TestTakenGone(t *testing.T) {
	f := opened(t, "par 1\ns source\nt sink s", 0)
	for range 10000 {
		f.Feed(0, 1, 1)
		f.Bar(1)
		for range 2 {
			for i := range f.Works() {
				f.Go(i)
			}
		}
	}
	for sub := range 2 {
		if l := f.works[sub].fed; len(l) != 0 || cap(l) > 100 {
			t.Errorf("%d messages, room for %d", len(l), cap(l))
		}
	}
}
