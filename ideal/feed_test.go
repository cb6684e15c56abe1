package ideal_test

import (
	"fmt"
	"slices"
	"strings"
	"testing"

	"changeling/api"
	"changeling/ideal"
)

// rec tells a record as the chapter does.
func rec(pos, key, val int64) api.Rec { return api.Rec{Pos: pos, Key: key, Val: val} }

// row is a row of them.
func row(l ...api.Rec) []api.Rec { return l }

// gives asks Feed for these, told by hand, and holds the words to it.
func (b both) gives(t *testing.T, key, val int64, want ...api.Rec) {
	t.Helper()
	if got := b.fed(t, key, val); !slices.Equal(got, want) {
		t.Errorf("%s\nFeed(%d, %d) = %v, by hand %v", told(b.j), key, val, got, want)
	}
}

// TestExamples: the chapter's.
func TestExamples(t *testing.T) {
	b := made(t, jobOf("s source", "r reduce s : acc + val", "t sink r"))
	b.gives(t, 5, 2, rec(1, 5, 2))
	b.gives(t, 5, 4, rec(1, 5, 6))
	b.gives(t, 6, 1, rec(1, 6, 1))
	if l := b.d.States(); len(l) != 1 || l[0].Uid != "r" {
		t.Error(l)
	}
}

// TestAsItIs: P18.2: of a source and a sink the record, at the place 1.
func TestAsItIs(t *testing.T) {
	b := made(t, jobOf("s source", "t sink s"))
	for _, key := range edges() {
		for _, val := range edges() {
			b.gives(t, key, val, rec(1, key, val))
		}
	}
	states(t, b.d)
}

// TestEachKind: P18.2: jobs with one node of a kind, by hand.
func TestEachKind(t *testing.T) {
	b := made(t, jobOf("s source", "m map s : val + 1", "t sink m"))
	b.gives(t, 5, 2, rec(1, 5, 3))
	b.gives(t, -1, greatest, rec(1, -1, least))
	b.gives(t, least, -1, rec(1, least, 0))

	b = made(t, jobOf("s source", "k key s : key + val", "t sink k"))
	b.gives(t, 5, 2, rec(1, 7, 2))
	b.gives(t, greatest, greatest, rec(1, -2, greatest))
	b.gives(t, least, least, rec(1, 0, least))

	b = made(t, jobOf("s source", "f filter s : key < val", "t sink f"))
	b.gives(t, 5, 2)
	b.gives(t, 2, 5, rec(1, 2, 5))
	b.gives(t, least, greatest, rec(1, least, greatest))
	b.gives(t, 0, 0)

	b = made(t, jobOf("s source", "f flat s : key", "t sink f"))
	b.gives(t, 2, greatest, rec(8, 2, greatest), rec(9, 2, least))
	b.gives(t, 1, 0, rec(8, 1, 0))
	b.gives(t, 0, 0)
	b.gives(t, -1, 3)
	b.gives(t, least, 3)
	b.gives(t, greatest, 3, rec(8, greatest, 3), rec(9, greatest, 4), rec(10, greatest, 5), rec(11, greatest, 6))
	b.gives(t, 5, -2, rec(8, 5, -2), rec(9, 5, -1), rec(10, 5, 0), rec(11, 5, 1))

	b = made(t, jobOf("s source", "r reduce s : acc * 2 + val", "t sink r"))
	b.gives(t, 0, 1, rec(1, 0, 1))
	b.gives(t, 0, 1, rec(1, 0, 3))
	b.gives(t, -1, -1, rec(1, -1, -1))
	b.gives(t, 0, 1, rec(1, 0, 7))
	b.gives(t, -1, 5, rec(1, -1, 3))
	b.gives(t, least, greatest, rec(1, least, greatest))
	b.gives(t, least, 3, rec(1, least, 1)) // twice the greatest one is -2
	states(t, b.d, api.State{Uid: "r", Bytes: "\x06\xff\xff\xff\xff\xff\xff\xff\xff\xff\x01\x02\x00\x00\x0e\x00\x01\x06\x00"})

	b = made(t, jobOf("s source", "w window s 3", "t sink w"))
	b.gives(t, 5, 2)
	b.gives(t, 6, 10)
	b.gives(t, 5, 3)
	states(t, b.d, api.State{Uid: "w", Bytes: "\x04\x0a\x00\x04\x04\x06\x0c\x00\x02\x14"})
	b.gives(t, 5, -7, rec(1, 5, -2))
	b.gives(t, 5, 1)
	b.gives(t, 6, greatest)
	b.gives(t, 6, greatest, rec(1, 6, 8)) // beyond 2^63 twice
	states(t, b.d, api.State{Uid: "w", Bytes: "\x02\x0a\x00\x02\x02"})
}

// TestSumsOver: P18.2: sums beyond 2^64: of as many numbers as a window has, at both ends.
func TestSumsOver(t *testing.T) {
	for _, c := range []struct{ val, sum int64 }{{greatest, -16}, {least, 0}, {greatest - 1, -32}, {-1, -16}, {1 << 60, 0}, {1<<60 + 1, 16}, {least + 1, 16}} {
		b := made(t, jobOf("s source", "w window s 16", "t sink w"))
		for i := range 48 {
			if i%16 == 15 {
				b.gives(t, c.val, c.val, rec(1, c.val, c.sum))
			} else {
				b.gives(t, c.val, c.val)
			}
		}
		r := made(t, jobOf("s source", "r reduce s : acc + val", "t sink r"))
		for range 15 {
			r.fed(t, c.val, c.val)
		}
		r.gives(t, c.val, c.val, rec(1, c.val, c.sum))
	}
}

// TestUnions: P18.2: of two and of three nodes, in the order of In, not of the nodes.
func TestUnions(t *testing.T) {
	b := made(t, jobOf("s source", "m map s : val + 1", "u union s m", "t sink u"))
	b.gives(t, 5, 2, rec(8, 5, 2), rec(9, 5, 3))
	b = made(t, jobOf("s source", "m map s : val + 1", "u union m s", "t sink u"))
	b.gives(t, 5, 2, rec(8, 5, 3), rec(9, 5, 2))
	nodes := []string{"a map s : val + 1", "b map s : val + 2", "c map s : val + 3"}
	for _, in := range []string{"a b c", "a c b", "b a c", "b c a", "c a b", "c b a"} {
		b = made(t, jobOf("s source", nodes[0], nodes[1], nodes[2], "u union "+in, "t sink u"))
		var want []api.Rec
		for i, uid := range strings.Fields(in) {
			want = append(want, rec(8+int64(i), 5, 2+int64(1+strings.Index("abc", uid))))
		}
		b.gives(t, 5, 2, want...)
	}
	b = made(t, jobOf("s source", "f filter s : val = 1", "g filter s : val = 2", "u union g s f", "t sink u"))
	b.gives(t, 3, 1, rec(9, 3, 1), rec(10, 3, 1))
	b.gives(t, 3, 2, rec(8, 3, 2), rec(9, 3, 2))
	b.gives(t, 3, 3, rec(9, 3, 3))
}

// TestOrder: P18.2: records come in the order of their places, whichever node they come from.
func TestOrder(t *testing.T) {
	b := made(t, jobOf("s source", "f flat s : 3", "u union f s", "t sink u"))
	b.gives(t, 5, 2, rec(9, 5, 2), rec(64, 5, 2), rec(72, 5, 3), rec(80, 5, 4))
	b = made(t, jobOf("s source", "f flat s : 2", "g flat s : 2", "u union f g", "t sink u"))
	b.gives(t, 5, 2, rec(64, 5, 2), rec(65, 5, 2), rec(72, 5, 3), rec(73, 5, 3))
	b = made(t, jobOf("s source", "f flat s : 2", "g flat s : 2", "m map g : -val", "u union m f s", "t sink u"))
	b.gives(t, 5, 2, rec(10, 5, 2), rec(64, 5, -2), rec(65, 5, 2), rec(72, 5, -3), rec(73, 5, 3))
	// what keeps something is told of them in that order, too
	b = made(t, jobOf("s source", "f flat s : 2", "g flat s : 2", "m map g : val + 4", "u union f m", "r reduce u : acc * 10 + val", "t sink r"))
	b.gives(t, 5, 1, rec(64, 5, 1), rec(65, 5, 15), rec(72, 5, 152), rec(73, 5, 1526))
	b = made(t, jobOf("s source", "f flat s : 3", "u union f s", "w window u 2", "m map w : val * 100", "v union w m", "t sink v"))
	b.gives(t, 5, 1, rec(8*64, 5, 2), rec(8*64+1, 5, 200), rec(8*80, 5, 5), rec(8*80+1, 5, 500))
	// a union of what stands deep, and of what does not
	b = made(t, jobOf("s source", "m map s : 7", "u union m s", "v union u s", "t sink v"))
	b.gives(t, 5, 2, rec(9, 5, 2), rec(64, 5, 7), rec(72, 5, 2))
}

// TestFlats: P18.2: one flat behind the other.
func TestFlats(t *testing.T) {
	b := made(t, jobOf("s source", "f flat s : 2", "g flat f : val", "t sink g"))
	b.gives(t, 5, 2, rec(64, 5, 2), rec(65, 5, 3), rec(72, 5, 3), rec(73, 5, 4), rec(74, 5, 5))
	b.gives(t, 5, 0, rec(72, 5, 1))
	b.gives(t, 5, -1)
	b = made(t, jobOf("s source", "f flat s : 4", "k key f : val", "g flat k : key", "r reduce g : acc + 1", "t sink r"))
	b.gives(t, 9, 0, rec(72, 1, 1), rec(80, 2, 1), rec(81, 2, 2), rec(88, 3, 1), rec(89, 3, 2), rec(90, 3, 3))
	b.gives(t, 9, 2, rec(64, 2, 3), rec(65, 2, 4), rec(72, 3, 4), rec(73, 3, 5), rec(74, 3, 6), rec(80, 4, 1), rec(81, 4, 2), rec(82, 4, 3), rec(83, 4, 4), rec(88, 5, 1), rec(89, 5, 2), rec(90, 5, 3), rec(91, 5, 4))
	b = made(t, jobOf("s source", "f flat s : 4", "g flat f : 4", "u union f g s", "t sink u"))
	got := b.fed(t, 1, 10)
	want := row(rec(10, 1, 10), rec(64, 1, 10), rec(72, 1, 11), rec(80, 1, 12), rec(88, 1, 13))
	for i := range int64(16) {
		want = append(want, rec(8*(64+8*(i/4)+i%4)+1, 1, 10+i/4+i%4))
	}
	if !slices.Equal(got, want) {
		t.Errorf("%v, want %v", got, want)
	}
}

// TestReadByMany: P18.2: a reduce, and a window, that are read by more than one node: they get each record once.
func TestReadByMany(t *testing.T) {
	b := made(t, jobOf("s source", "r reduce s : acc + val", "m map r : val * 10", "k key r : 7", "u union r m k", "t sink u"))
	b.gives(t, 5, 2, rec(8, 5, 2), rec(9, 5, 20), rec(10, 7, 2))
	b.gives(t, 5, 3, rec(8, 5, 5), rec(9, 5, 50), rec(10, 7, 5))
	b.gives(t, 6, 1, rec(8, 6, 1), rec(9, 6, 10), rec(10, 7, 1))
	states(t, b.d, state("r", kept{5: cell(5), 6: cell(1)}))
	b = made(t, jobOf("s source", "w window s 2", "m map w : val * 10", "v window w 2", "u union v m w", "t sink u"))
	b.gives(t, 5, 2)
	b.gives(t, 5, 3, rec(9, 5, 50), rec(10, 5, 5))
	b.gives(t, 5, 4)
	states(t, b.d, state("w", kept{5: cell(0, 4)}), state("v", kept{5: cell(0, 5)}))
	b.gives(t, 5, 6, rec(8, 5, 15), rec(9, 5, 100), rec(10, 5, 10))
	states(t, b.d, state("w", nil), state("v", nil))
}

// TestMoreThanOneWay: P18.2: nodes that read the first one more than one way round.
func TestMoreThanOneWay(t *testing.T) {
	b := made(t, jobOf("s source", "m map s : val + 1", "k key s : key + 8", "u union k m", "r reduce u : acc + val", "v union u r", "t sink v"))
	b.gives(t, 0, 5, rec(64, 8, 5), rec(65, 8, 5), rec(72, 0, 6), rec(73, 0, 6))
	b.gives(t, 8, 5, rec(64, 16, 5), rec(65, 16, 5), rec(72, 8, 6), rec(73, 8, 11))
	states(t, b.d, state("r", kept{0: cell(6), 8: cell(11), 16: cell(5)}))
	// a reduce that is told of one key both ways round
	b = made(t, jobOf("s source", "m map s : 0 - val", "f filter s : val < 0", "u union s m f", "r reduce u : acc * 2 + val", "t sink r"))
	b.gives(t, 3, 5, rec(8, 3, 5), rec(9, 3, 5))
	b.gives(t, 3, -1, rec(8, 3, 9), rec(9, 3, 19), rec(10, 3, 37))
	states(t, b.d, state("r", kept{3: cell(37)}))
	// as many ways as may be: four at each flat, and twice two at the unions
	b = made(t, jobOf("s source", "f flat s : 4", "g flat f : 4", "m map g : val", "u union g m", "n map u : val", "v union u n", "r reduce v : acc + 1", "t sink r"))
	l := b.fed(t, 1, 100)
	for i, r := range l {
		at := int64(i)
		if r != rec(64*(64+8*(at/16)+at/4%4)+8*(at/2%2)+at%2, 1, at+1) {
			t.Error(i, r)
		}
	}
	if len(l) != 64 {
		t.Error(len(l))
	}
}

// TestNodesKeepByThemselves: P18.2: two nodes that keep something of one key, each with its own table.
func TestNodesKeepByThemselves(t *testing.T) {
	b := made(t, jobOf("s source", "a reduce s : acc + val", "b reduce s : acc - val", "c reduce a : acc + val", "w window b 2", "v window c 2", "u union a w v", "t sink u"))
	b.gives(t, 5, 2, rec(8, 5, 2))
	states(t, b.d, state("a", kept{5: cell(2)}), state("b", kept{5: cell(-2)}), state("c", kept{5: cell(2)}), state("w", kept{5: cell(0, -2)}), state("v", kept{5: cell(0, 2)}))
	b.gives(t, 5, 3, rec(8, 5, 5), rec(9, 5, -7), rec(10, 5, 9))
	states(t, b.d, state("a", kept{5: cell(5)}), state("b", kept{5: cell(-5)}), state("c", kept{5: cell(7)}), state("w", nil), state("v", nil))
	b.gives(t, 13, 1, rec(8, 13, 1))
	states(t, b.d, state("a", kept{5: cell(5), 13: cell(1)}), state("b", kept{5: cell(-5), 13: cell(-1)}), state("c", kept{5: cell(7), 13: cell(1)}), state("w", kept{13: cell(0, -1)}), state("v", kept{13: cell(0, 1)}))
}

// TestAtFirst: P18.2: States tells of each stateful node, in the order of nodes, an empty table; of a job without any none.
func TestAtFirst(t *testing.T) {
	lines := []string{"s source", "z reduce s : acc", "m map z : val", "a window m 1", "ß reduce a : 1", "t sink ß"}
	b := made(t, jobOf(lines...))
	states(t, b.d, api.State{Uid: "z", Bytes: "\x00"}, api.State{Uid: "a", Bytes: "\x00"}, api.State{Uid: "ß", Bytes: "\x00"})
	lines = []string{"s source", "m map s : val", "f filter m : 1 = 1", "g flat f : 1", "k key g : key", "u union k g", "t sink u"}
	b = made(t, jobOf(lines...))
	states(t, b.d)
	b.gives(t, 5, 2, rec(64, 5, 2), rec(65, 5, 2))
	states(t, b.d)
}

// TestFull: P18.2: of a key whose group is full no record comes, and nothing is kept; other keys go on.
func TestFull(t *testing.T) {
	for of := range int64(8) {
		b := made(t, jobOf("s source", "r reduce s : acc + val", "w window r 2", "u union r w", "t sink u"))
		for i := range int64(40) {
			key := of + 8*(i-20)
			b.gives(t, key, i, rec(8, key, i))
		}
		was := b.tells(t)
		for _, key := range []int64{of + 160, of - 168, least + of, greatest - 7 + of} {
			b.gives(t, key, 1)
			states(t, b.d, was...)
		}
		b.gives(t, of+1, 1, rec(8, of+1, 1)) // another group's
		b.gives(t, of, 1, rec(8, of, 21), rec(9, of, 41))
		b.gives(t, of+160, 1) // there is room of the window, but not of the reduce
		b.gives(t, of, 1, rec(8, of, 22))
		b.tells(t)
	}
}

// TestFullWindow: P18.2: a window's key that goes makes room; where its group is full there is none for one that would be gone at once.
func TestFullWindow(t *testing.T) {
	for of := range int64(8) {
		b := made(t, jobOf("s source", "w window s 2", "t sink w"))
		for i := range int64(40) {
			b.gives(t, of+8*i, i)
		}
		b.gives(t, of-8, 7)
		b.gives(t, of-8, 7) // nothing was kept
		b.gives(t, of+8, 5, rec(1, of+8, 6))
		b.gives(t, of-8, 7)
		b.gives(t, of+8, 5)
		b.gives(t, of-8, 1, rec(1, of-8, 8))
		b.tells(t)
	}
	one := made(t, jobOf("s source", "w window s 1", "t sink w"))
	for i := range int64(400) {
		one.gives(t, i, 3, rec(1, i, 3))
	}
	states(t, one.d, state("w", nil))
}

// TestFullWithin: P18.2: a group that becomes full within what comes of one record.
func TestFullWithin(t *testing.T) {
	j := jobOf("s source", "f flat s : 4", "k key f : val * 8", "r reduce k : acc + 1", "m map r : 9", "u union r m", "t sink u")
	k := fullOf(cell(0), 0)
	delete(k, 0)
	delete(k, 8)
	b := opened(t, j, state("r", k))
	b.gives(t, 1, 0, rec(64, 0, 1), rec(65, 0, 9), rec(72, 8, 1), rec(73, 8, 9), rec(80, 16, 1), rec(81, 16, 9), rec(88, 24, 1), rec(89, 24, 9))
	b = opened(t, j, state("r", k))
	b.gives(t, 1, 1<<40, rec(64, 1<<43, 1), rec(65, 1<<43, 9), rec(72, 1<<43+8, 1), rec(73, 1<<43+8, 9))
	b.gives(t, 1, 1<<40-1, rec(72, 1<<43, 2), rec(73, 1<<43, 9), rec(80, 1<<43+8, 2), rec(81, 1<<43+8, 9))
	b.tells(t)
}

// TestEdges: P18.2: keys and numbers at the edges, at nodes of all kinds.
func TestEdges(t *testing.T) {
	for _, lines := range [][]string{
		{"s source", "r reduce s : acc * 3 + val - key", "t sink r"},
		{"s source", "w window s 2", "t sink w"},
		{"s source", "k key s : val", "r reduce k : acc + key", "w window r 3", "u union r w", "t sink u"},
		{"s source", "m map s : val * val", "f flat m : key", "r reduce f : if val < acc then acc else val", "t sink r"},
		{"s source", "k key s : key / 8", "f filter k : key <= val", "g flat f : 4", "w window g 3", "u union s w g", "t sink u"},
		{"s source", "f flat s : val", "k key f : val % 3", "g flat k : key + 1", "r reduce g : acc - val", "w window g 2", "u union w r", "t sink u"},
	} {
		b := made(t, jobOf(lines...))
		for range 2 {
			for _, key := range edges() {
				for _, val := range edges() {
					b.fed(t, key, val)
				}
			}
			b.tells(t)
		}
	}
}

// TestNil: R4.
func TestNil(t *testing.T) {
	var d *ideal.Ideal
	for _, n := range edges() {
		if l := d.Feed(n, n); len(l) != 0 {
			t.Error(l)
		}
	}
	if l := d.States(); len(l) != 0 {
		t.Error(l)
	}
	if other := d.Copy(); other != nil {
		t.Error(other)
	}
}

// TestGrown: P18.1, P18.2: whatever jobs, with whatever they keep, and many records.
func TestGrown(t *testing.T) {
	d := dice(18)
	kinds, sizes, outs, unlike := map[uint8]int{}, map[int]int{}, 0, map[string]int{}
	for range 3000 {
		j := d.grown()
		b := opened(t, j, d.states(j)...)
		for range 25 {
			key, val := d.record()
			l := b.fed(t, key, val)
			outs += len(l)
			unlike[fmt.Sprint(len(l) > 1, len(l) > 8)]++
		}
		b.tells(t)
		sizes[len(j.Nodes)]++
		for _, n := range j.Nodes {
			kinds[n.Kind]++
		}
	}
	for kind := uint8(1); kind <= 9; kind++ {
		if kinds[kind] < 1000 {
			t.Error(kinds)
		}
	}
	for size := 2; size <= 12; size++ {
		if sizes[size] < 40 {
			t.Error(sizes)
		}
	}
	if outs < 30000 || unlike["true true"] < 500 || unlike["true false"] < 3000 {
		t.Error(outs, unlike)
	}
}

// TestGrownLong: P18.2: long rows of records, so that groups become full.
func TestGrownLong(t *testing.T) {
	d := dice(180)
	for range 40 {
		j := d.grown()
		b := made(t, j)
		for range 1500 {
			b.fed(t, int64(d.below(700))-350, d.number())
		}
		b.tells(t)
	}
}
