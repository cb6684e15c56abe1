package flow_test

import (
	"slices"
	"testing"

	"changeling/api"
)

// rec tells a record as the chapters do.
func rec(pos, key, val int64) api.Rec { return api.Rec{Pos: pos, Key: key, Val: val} }

// recs is what a work did that took records, and bar what one did that took a bar.
func recs(node, sub int, seq int64, l ...api.Rec) api.Work {
	return api.Work{Kind: 1, Node: node, Sub: sub, Seq: seq, L: l}
}

func bar(node, sub int, seq, n int64, bytes string) api.Work {
	return api.Work{Kind: 2, Node: node, Sub: sub, Seq: seq, Bar: n, Bytes: bytes}
}

// does asks Go for this, told by hand, and holds the words to it.
func (b *both) does(i int, want api.Work) {
	b.t.Helper()
	if did, is := b.turn(i); !is || !sameWork(did, want) {
		b.t.Errorf("%s\nGo(%d) = %+v, %v, by hand %+v", told(b.w.j), i, did, is, want)
	}
}

// doesNot asks Go of a work that can't go on.
func (b *both) doesNot(l ...int) {
	b.t.Helper()
	for _, i := range l {
		if did, is := b.turn(i); is || !sameWork(did, api.Work{}) {
			b.t.Errorf("%s\nGo(%d) = %+v, %v, by hand it can't", told(b.w.j), i, did, is)
		}
	}
}

// came goes on by turns till all is through, and tells what came out of both parts.
func (b *both) came() [2][]api.Rec {
	b.t.Helper()
	var l [2][]api.Rec
	for next := b.byTurns(); !b.f.Idle(); {
		if did, _ := b.turn(next()); did.Node == len(b.w.j.Nodes)-1 {
			l[did.Sub] = append(l[did.Sub], did.L...)
		}
	}
	return l
}

// gives asks that this comes out.
func (b *both) gives(part0, part1 []api.Rec) {
	b.t.Helper()
	if l := b.came(); !slices.Equal(l[0], part0) || !slices.Equal(l[1], part1) {
		b.t.Errorf("%s\nit came out %v, by hand %v, %v", told(b.w.j), l, part0, part1)
	}
}

func row(l ...api.Rec) []api.Rec { return l }

// TestExamples: the chapter's.
func TestExamples(t *testing.T) {
	b := made(t, of18(2), nil, 0, 1)
	if b.f.Works() != 6 {
		t.Error(b.f.Works())
	}
	b.feed(0, 5, 2)
	if !b.f.Can(0) || !b.f.Can(1) || b.f.Can(2) {
		t.Error(b.f.Can(0), b.f.Can(1), b.f.Can(2))
	}
	b.does(0, recs(0, 0, 0))
	b.does(1, recs(0, 1, 0))
	b.does(2, recs(1, 0, 0))
	b.does(3, recs(1, 1, 0))
	b.does(4, recs(2, 0, 0))
	b.does(5, recs(2, 1, 0, rec(1, 5, 2)))
	b.doesNot(0, 1, 2, 3, 4, 5)
}

// TestFeedParts: P20.2: a part from 0 to 1; else nothing is fed.
func TestFeedParts(t *testing.T) {
	for _, first := range []int64{0, 3, greatest} {
		b := made(t, of18(3), nil, first, 2)
		for _, part := range []int{least, least + 1, -2, -1, 2, 3, 1 << 32, 1<<32 + 1, greatest} {
			if e := b.f.Feed(part, 1, 2); e != api.ErrArg {
				t.Errorf("Feed(%d): error %d", part, e)
			}
			b.looks()
		}
		if !b.f.Idle() || b.f.Next() != first {
			t.Error(b.f.Idle(), b.f.Next())
		}
		b.feed(1, 1, 2)
		b.feed(0, 1, 2)
		b.gives(row(rec(1, 1, 2), rec(1, 1, 4)), nil)
	}
}

// TestBarNumbers: P20.2: a number above 0; else nothing is fed. Numbers need not rise, and no record's number goes with a bar.
func TestBarNumbers(t *testing.T) {
	b := made(t, of18(1), nil, 4, 1)
	for _, n := range []int64{least, least + 1, -1 << 32, -2, -1, 0} {
		if e := b.f.Bar(n); e != api.ErrArg {
			t.Errorf("Bar(%d): error %d", n, e)
		}
		b.looks()
	}
	for _, n := range []int64{1, 2, greatest, greatest - 1, 1 << 32, 1, 1} {
		b.bar(n)
		if b.f.Next() != 4 || b.f.Idle() {
			t.Error(b.f.Next(), b.f.Idle())
		}
		b.does(0, bar(0, 0, 4, n, ""))
		b.does(1, bar(0, 1, 4, n, ""))
		b.does(2, bar(1, 0, 4, n, "\x00"))
		b.does(3, bar(2, 0, 4, n, ""))
		b.does(4, bar(2, 1, 4, n, ""))
		b.doesNot(0, 1, 2, 3, 4)
	}
}

// TestFirst: P20.1 and P20.4: numbers go on from the first one, by 2^64.
func TestFirst(t *testing.T) {
	for first, next := range map[int64][3]int64{0: {1, 2, 3}, 7: {8, 9, 10}, greatest - 2: {greatest - 1, greatest, least}, greatest - 1: {greatest, least, least + 1}, greatest: {least, least + 1, least + 2}} {
		b := made(t, shortest(2), nil, first, 1)
		for at, seq := range []int64{first, next[0], next[1]} {
			b.feed(at%2, 1, int64(at))
			b.bar(8)
			if b.f.Next() != next[at] {
				t.Errorf("first %d: Next() = %d, want %d", first, b.f.Next(), next[at])
			}
			b.does(0, recs(0, 0, seq))
			b.does(1, recs(0, 1, seq))
			b.does(2, recs(1, 0, seq, rec(1, 1, int64(at))))
			b.does(3, recs(1, 1, seq))
			b.does(1, bar(0, 1, next[at], 8, ""))
			b.does(0, bar(0, 0, next[at], 8, ""))
			b.does(3, bar(1, 1, next[at], 8, ""))
			b.does(2, bar(1, 0, next[at], 8, ""))
		}
	}
}

// TestNoWork: P20.3: numbers of no work.
func TestNoWork(t *testing.T) {
	b := made(t, of18(2), nil, 0, 1)
	b.feed(0, 5, 2)
	for _, i := range []int{least, least + 1, -7, -6, -1, 6, 7, 12, 1 << 32, greatest - 1, greatest} {
		if b.f.Can(i) {
			t.Errorf("Can(%d)", i)
		}
		b.doesNot(i)
	}
	b.gives(nil, row(rec(1, 5, 2)))
}

// TestCanNot: P20.3: a work that lacks a message, or room, does not go on, and nothing has turned.
func TestCanNot(t *testing.T) {
	b := made(t, shortest(3), nil, 0, 1)
	b.doesNot(0, 1, 2, 3)
	b.feed(1, 6, 9)
	b.doesNot(2, 3)
	b.does(0, recs(0, 0, 0))
	b.doesNot(0, 2, 3)
	b.feed(0, 2, 3)
	b.doesNot(0, 2, 3)
	b.does(1, recs(0, 1, 0))
	b.doesNot(0, 1)
	b.does(3, recs(1, 1, 0, rec(1, 6, 9)))
	b.doesNot(0, 1, 3) // the other work of the last node has not taken its messages
	b.does(2, recs(1, 0, 0))
	b.does(1, recs(0, 1, 1))
	b.doesNot(1, 2, 3)
	b.does(0, recs(0, 0, 1))
	b.does(2, recs(1, 0, 1, rec(1, 2, 3)))
	b.does(3, recs(1, 1, 1))
	b.doesNot(0, 1, 2, 3)
}

// TestRoom: as many messages as there is room go ahead, no more.
func TestRoom(t *testing.T) {
	for room := 1; room <= 8; room++ {
		b := made(t, shortest(1), nil, 0, room)
		for i := range int64(20) {
			b.feed(0, i, i)
		}
		for at := range room {
			b.does(0, recs(0, 0, int64(at)))
		}
		b.doesNot(0, 2, 3)
		for at := range room {
			b.does(1, recs(0, 1, int64(at)))
		}
		b.doesNot(0, 1)
		b.does(2, recs(1, 0, 0, rec(1, 0, 0)))
		b.doesNot(0, 1)
		b.does(3, recs(1, 1, 0))
		b.does(0, recs(0, 0, int64(room)))
		b.doesNot(0)
		b.through(b.lastFirst())
	}
}

// TestFull: P20.6: with every pipe full the works of the last node go on.
func TestFull(t *testing.T) {
	for par := 1; par <= 4; par++ {
		for room := 1; room <= 8; room++ {
			b := made(t, jobOf(par, "s source", "k key s : val", "r reduce k : acc + 1", "m map r : val", "t sink m"), nil, 0, room)
			for i := range int64(40) {
				b.feed(int(i%2), i, i)
			}
			last := b.f.Works() - 2
			for some := true; some; {
				some = false
				for i := range last {
					_, is := b.turn(i)
					some = some || is
				}
			}
			for r, l := range b.w.on {
				if len(l) != room {
					t.Fatalf("%v has %d messages", r, len(l))
				}
			}
			if !b.f.Can(last) || !b.f.Can(last+1) {
				t.Fatal("the works of the last node can't go on")
			}
			b.through(b.byTurns())
		}
	}
}

// TestEachKind: jobs with one node of a kind, by hand: what comes out goes by the key that it has then.
func TestEachKind(t *testing.T) {
	for par := 1; par <= 4; par++ {
		b := made(t, jobOf(par, "s source", "m map s : val + 1", "t sink m"), nil, 0, 3)
		b.feed(0, 5, 2)
		b.feed(1, -8, greatest)
		b.gives(row(rec(1, -8, least)), row(rec(1, 5, 3)))

		b = made(t, jobOf(par, "s source", "f filter s : key < val", "t sink f"), nil, 0, 3)
		b.feed(0, 5, 2)
		b.feed(1, 2, 5)
		b.gives(row(rec(1, 2, 5)), nil)

		b = made(t, jobOf(par, "s source", "f flat s : val", "t sink f"), nil, 0, 3)
		b.feed(0, 5, 2)
		b.feed(1, 1, 9)
		b.feed(1, 0, 0)
		b.gives(row(rec(8, 1, 9), rec(9, 1, 10), rec(10, 1, 11), rec(11, 1, 12)), row(rec(8, 5, 2), rec(9, 5, 3)))

		b = made(t, jobOf(par, "s source", "k key s : val", "t sink k"), nil, 0, 3)
		b.feed(0, 5, 2)
		b.feed(1, 1, -1)
		b.gives(row(rec(1, 2, 2)), row(rec(1, -1, -1)))

		b = made(t, jobOf(par, "s source", "r reduce s : acc * 2 + val", "t sink r"), nil, 0, 3)
		b.feed(0, 5, 2)
		b.feed(1, 5, 1)
		b.feed(0, 0, 1)
		b.gives(row(rec(1, 0, 1)), row(rec(1, 5, 2), rec(1, 5, 5)))

		b = made(t, jobOf(par, "s source", "w window s 2", "t sink w"), nil, 0, 3)
		b.feed(0, 5, 2)
		b.feed(1, 3, 1)
		b.feed(1, 5, 7)
		b.feed(1, 3, greatest)
		b.gives(row(rec(1, 3, least)), row(rec(1, 5, 9)))

		b = made(t, jobOf(par, "s source", "m map s : -val", "u union m s", "t sink u"), nil, 0, 3)
		b.feed(0, 5, 2)
		b.feed(1, 3, 1)
		b.gives(row(rec(8, 3, -1), rec(9, 3, 1)), row(rec(8, 5, -2), rec(9, 5, 2)))
	}
}

// TestSpread: records of one message go to several works of the next node, by their places, and to none.
func TestSpread(t *testing.T) {
	b := made(t, jobOf(4, "s source", "f flat s : val", "k key f : val", "r reduce k : acc * 10 + val", "t sink r"), nil, 0, 1)
	b.feed(1, 0, 6) // 6, 7, 8 and 9
	b.feed(0, 0, 0) // none
	b.feed(0, 3, 3) // 3, 4 and 5
	b.bar(1)
	var tables []string
	var out [2][][]api.Rec
	for next := b.byTurns(); !b.f.Idle(); {
		did, _ := b.turn(next())
		switch {
		case did.Kind == 1 && did.Node == 4:
			out[did.Sub] = append(out[did.Sub], did.L)
		case did.Kind == 2 && did.Node == 3:
			tables = append(tables, did.Bytes)
		}
	}
	for part, want := range [2][][]api.Rec{
		{row(rec(10, 8, 8), rec(11, 9, 9)), nil, row(rec(8, 3, 3))},
		{row(rec(8, 6, 6), rec(9, 7, 7)), nil, row(rec(9, 4, 4), rec(10, 5, 5))},
	} {
		if !slices.EqualFunc(out[part], want, slices.Equal) {
			t.Errorf("of part %d %v, by hand %v", part, out[part], want)
		}
	}
	if want := []string{"\x04\x10\x10\x00\x12\x12\x00", "\x02\x06\x06\x00", "\x04\x08\x08\x00\x0a\x0a\x00", "\x04\x0c\x0c\x00\x0e\x0e\x00"}; !slices.Equal(tables, want) {
		t.Errorf("tables %q, by hand %q", tables, want)
	}
}

// TestMergedWorks: what a work gets of several works of one node stands in the order of its places.
func TestMergedWorks(t *testing.T) {
	for par := 1; par <= 4; par++ {
		b := made(t, jobOf(par, "s source", "f flat s : 4", "k key f : val", "m map k : val", "o key m : 0", "r reduce o : acc * 10 + val", "t sink r"), nil, 0, 1)
		b.feed(0, 3, 6) // 6 and 7 go to later works than 8 and 9
		b.gives(row(rec(8, 0, 6), rec(9, 0, 67), rec(10, 0, 678), rec(11, 0, 6789)), nil)
	}
}

// TestMergedNodes: what a union gets stands in the order of In, and of one node that of its places.
func TestMergedNodes(t *testing.T) {
	for par := 1; par <= 4; par++ {
		lines := func(union string) api.Job {
			return jobOf(par, "s source", "a flat s : 2", "b map s : val + 5", "c map a : val * 2", union, "r reduce u : acc * 100 + val", "t sink r")
		}
		b := made(t, lines("u union c b"), nil, 0, 1)
		b.feed(0, 3, 11) // c: 22 and 24, at 8 and 9; b: 16, at 1
		b.gives(row(rec(9, 3, 16), rec(64, 3, 1622), rec(72, 3, 162224)), nil)

		b = made(t, jobOf(par, "s source", "a map s : val + 1", "b map s : val + 2", "c map s : val + 3", "u union b c a", "r reduce u : acc * 100 + val", "t sink r"), nil, 0, 1)
		b.feed(1, 4, 10)
		b.gives(nil, row(rec(8, 4, 12), rec(9, 4, 1213), rec(10, 4, 121311)))

		b = made(t, jobOf(par, "s source", "a map s : val + 1", "b map s : val + 2", "u union a b s", "r reduce u : acc * 100 + val", "t sink r"), nil, 0, 1)
		b.feed(1, 4, 10)
		b.gives(nil, row(rec(8, 4, 11), rec(9, 4, 1112), rec(10, 4, 111210)))
	}
}

// TestUnionWaits: a node that reads two waits for both; a node that two read waits for room to both.
func TestUnionWaits(t *testing.T) {
	b := made(t, jobOf(1, "s source", "a map s : val + 1", "u union a s", "t sink u"), nil, 0, 1)
	b.feed(0, 5, 2)
	b.feed(0, 5, 3)
	b.does(0, recs(0, 0, 0))
	b.does(1, recs(0, 1, 0))
	b.doesNot(0, 1, 3, 4, 5) // of s there is a message, of a there is none
	b.does(2, recs(1, 0, 0))
	b.doesNot(0, 1, 2, 4, 5) // to a there is room, to u there is none
	b.does(3, recs(2, 0, 0))
	b.does(0, recs(0, 0, 1))
	b.does(1, recs(0, 1, 1))
	b.does(2, recs(1, 0, 1))
	b.doesNot(0, 1, 2, 3)
	b.does(4, recs(3, 0, 0))
	b.doesNot(3)
	b.does(5, recs(3, 1, 0, rec(8, 5, 3), rec(9, 5, 2)))
	b.does(3, recs(2, 0, 1))
	b.does(5, recs(3, 1, 1, rec(8, 5, 4), rec(9, 5, 3)))
	b.does(4, recs(3, 0, 1))
}

// TestBars: a bar goes through all works, behind the records ahead of it, and ahead of those behind it; each tells its table as it is then.
func TestBars(t *testing.T) {
	b := made(t, jobOf(2, "s source", "r reduce s : acc + val", "w window r 2", "t sink w"), nil, 10, 8)
	b.feed(0, 5, 2)
	b.feed(1, 1, 3)
	b.bar(7)
	b.feed(0, 5, 1)
	b.bar(6)
	for _, i := range []int{0, 1} {
		b.does(i, recs(0, i, 10))
		b.does(i, recs(0, i, 11))
	}
	b.does(3, recs(1, 1, 10))
	b.does(3, recs(1, 1, 11))
	b.does(2, recs(1, 0, 10))
	b.does(0, bar(0, 0, 12, 7, ""))
	b.doesNot(3)
	b.does(1, bar(0, 1, 12, 7, ""))
	b.does(2, recs(1, 0, 11))
	b.does(4, recs(2, 0, 10))
	b.does(4, recs(2, 0, 11))
	b.does(5, recs(2, 1, 10))
	b.does(0, recs(0, 0, 12))
	b.does(3, bar(1, 1, 12, 7, "\x02\x0a\x04\x00"))
	b.does(5, recs(2, 1, 11))
	b.does(1, recs(0, 1, 12))
	b.does(3, recs(1, 1, 12))
	b.does(2, bar(1, 0, 12, 7, "\x02\x02\x06\x00"))
	b.does(4, bar(2, 0, 12, 7, "\x02\x02\x00\x02\x06"))
	b.does(5, bar(2, 1, 12, 7, "\x02\x0a\x00\x02\x04"))
	b.does(2, recs(1, 0, 12))
	b.does(6, recs(3, 0, 10))
	b.does(6, recs(3, 0, 11))
	b.does(6, bar(3, 0, 12, 7, ""))
	b.does(7, recs(3, 1, 10))
	b.does(5, recs(2, 1, 12))
	b.does(4, recs(2, 0, 12))
	b.does(0, bar(0, 0, 13, 6, ""))
	b.does(1, bar(0, 1, 13, 6, ""))
	b.does(2, bar(1, 0, 13, 6, "\x02\x02\x06\x00"))
	b.does(3, bar(1, 1, 13, 6, "\x02\x0a\x06\x00"))
	b.does(4, bar(2, 0, 13, 6, "\x02\x02\x00\x02\x06"))
	b.does(7, recs(3, 1, 11))
	b.does(7, bar(3, 1, 12, 7, ""))
	b.does(5, bar(2, 1, 13, 6, "\x00"))
	b.does(6, recs(3, 0, 12))
	b.does(7, recs(3, 1, 12, rec(1, 5, 5)))
	b.does(7, bar(3, 1, 13, 6, ""))
	b.does(6, bar(3, 0, 13, 6, ""))
	if !b.f.Idle() || b.f.Next() != 13 {
		t.Error(b.f.Idle(), b.f.Next())
	}
}

// TestIdle: P20.4: ahead of the first Feed, between, and when all is through.
func TestIdle(t *testing.T) {
	b := made(t, of18(1), nil, 2, 1)
	if !b.f.Idle() || b.f.Next() != 2 || b.f.Works() != 5 {
		t.Error(b.f.Idle(), b.f.Next(), b.f.Works())
	}
	b.feed(0, 1, 1)
	for i := range 5 {
		if b.f.Idle() || b.f.Next() != 3 || b.f.Works() != 5 {
			t.Error(i, b.f.Idle(), b.f.Next(), b.f.Works())
		}
		b.turn(i)
	}
	if !b.f.Idle() || b.f.Next() != 3 {
		t.Error(b.f.Idle(), b.f.Next())
	}
	b.bar(1)
	for i := range 5 {
		if b.f.Idle() || b.f.Next() != 3 {
			t.Error(i, b.f.Idle(), b.f.Next())
		}
		b.turn(i)
	}
	if !b.f.Idle() {
		t.Error("not idle")
	}
}

// TestAnswers: what Go answers shares nothing with the flow.
func TestAnswers(t *testing.T) {
	d := dice(77)
	for range 60 {
		j := d.grown()
		b := made(t, j, d.states(j), 0, 1+d.below(8))
		feedSome(b, &d, 12)
		next := b.thrown(&d)
		for !b.f.Idle() {
			did, _ := b.turn(next())
			for i := range did.L {
				did.L[i] = rec(-1, -1, -1)
			}
			clear(append(did.L, rec(1, 2, 3))[:len(did.L)])
		}
	}
}

// TestApart: two flows of one job and the same states go on without touching each other.
func TestApart(t *testing.T) {
	d := dice(8)
	for range 40 {
		j := d.grown()
		l := d.states(j)
		a, b := made(t, j, l, 0, 1+d.below(8)), made(t, j, l, 5, 1+d.below(8))
		picks := [2]func() int{a.thrown(&d), b.thrown(&d)}
		for range 300 {
			at := d.below(2)
			one := []*both{a, b}[at]
			if d.below(16) == 0 {
				feedSome(one, &d, 3)
			}
			one.turn(picks[at]())
		}
		a.through(picks[0])
		b.through(picks[1])
	}
}
