package oper_test

import (
	"slices"
	"testing"

	"changeling/api"
	"changeling/group"
	"changeling/oper"
	"changeling/table"
)

// merges asks Merge, and Gets of a kind that is no union's, for these records.
func merges(t *testing.T, want []api.Rec, l ...[]api.Rec) {
	t.Helper()
	if got := oper.Merge(l...); !slices.Equal(got, want) {
		t.Errorf("Merge(%v) = %v, want %v", l, got, want)
	}
	for _, kind := range []uint8{0, 1, 2, 3, 4, 5, 6, 7, 9, 10, 255} {
		if got := oper.Gets(api.Node{Kind: kind, In: []int{0, 1}}, l...); !slices.Equal(got, want) {
			t.Errorf("Gets(%d, %v) = %v, want %v", kind, l, got, want)
		}
	}
}

// unites asks Gets of a union.
func unites(t *testing.T, want []api.Rec, l ...[]api.Rec) {
	t.Helper()
	for _, n := range []api.Node{{Kind: 8}, {Uid: "u", Kind: 8, In: []int{3, 1}, X: read("key"), N: 5}} {
		if got := oper.Gets(n, l...); !slices.Equal(got, want) {
			t.Errorf("Gets(union, %v) = %v, want %v", l, got, want)
		}
	}
}

// TestMerge: P17.2: all records, by hand.
func TestMerge(t *testing.T) {
	merges(t, nil)
	merges(t, nil, nil)
	merges(t, nil, nil, row(), nil)
	merges(t, row(rec(1, 5, 2)), row(rec(1, 5, 2)))
	merges(t, row(rec(1, 5, 2)), nil, row(rec(1, 5, 2)), row())
	merges(t, row(rec(1, 5, 2), rec(2, 6, 1), rec(3, 5, 4)), row(rec(1, 5, 2), rec(3, 5, 4)), row(rec(2, 6, 1)))
	merges(t, row(rec(1, 5, 2), rec(2, 6, 1), rec(3, 5, 4)), row(rec(2, 6, 1)), row(rec(3, 5, 4)), row(rec(1, 5, 2)))
	merges(t, row(rec(1, 0, 0), rec(2, 0, 0), rec(3, 0, 0), rec(4, 0, 0)), row(rec(4, 0, 0), rec(2, 0, 0)), row(rec(3, 0, 0), rec(1, 0, 0)))
	merges(t, row(rec(least, 1, 1), rec(-1, 2, 2), rec(0, 3, 3), rec(1, 4, 4), rec(greatest, 5, 5)), row(rec(greatest, 5, 5), rec(0, 3, 3), rec(least, 1, 1)), row(rec(1, 4, 4), rec(-1, 2, 2)))
	merges(t, row(rec(7, 9, 9), rec(7, 8, 8), rec(7, 1, 5), rec(7, 1, 4), rec(7, 9, 9)), row(rec(7, 9, 9), rec(7, 8, 8)), nil, row(rec(7, 1, 5)), row(rec(7, 1, 4), rec(7, 9, 9)))
	merges(t, row(rec(0, 3, 3), rec(1, 9, 1), rec(1, 2, 2), rec(1, 1, 4)), row(rec(1, 9, 1), rec(0, 3, 3), rec(1, 2, 2)), row(rec(1, 1, 4)))
}

// TestUnion: P17.2: 8 times the place and the number of the row together, by hand.
func TestUnion(t *testing.T) {
	unites(t, nil)
	unites(t, nil, nil, row(), nil)
	unites(t, row(rec(8, 5, 2)), row(rec(1, 5, 2)))
	unites(t, row(rec(10, 5, 2)), nil, nil, row(rec(1, 5, 2)))
	unites(t, row(rec(8, 5, 2), rec(9, 6, 1), rec(16, 5, 4), rec(25, 1, 1)), row(rec(1, 5, 2), rec(2, 5, 4)), row(rec(1, 6, 1), rec(3, 1, 1)))
	unites(t, row(rec(8, 1, 1), rec(9, 2, 2), rec(10, 3, 3)), row(rec(1, 1, 1)), row(rec(1, 2, 2)), row(rec(1, 3, 3)))
	unites(t, row(rec(-8, 1, 1), rec(-7, 2, 2), rec(0, 3, 3), rec(1, 4, 4)), row(rec(0, 3, 3), rec(-1, 1, 1)), row(rec(0, 4, 4), rec(-1, 2, 2)))
	unites(t, row(rec(8, 1, 2), rec(8, 1, 1), rec(9, 7, 7), rec(9, 7, 6)), row(rec(1, 1, 2), rec(1, 1, 1)), row(rec(1, 7, 7), rec(1, 7, 6)))
	unites(t, row(rec(16, 2, 2), rec(16, 1, 1)), row(rec(2, 2, 2)), nil, nil, nil, nil, nil, nil, nil, row(rec(1, 1, 1))) // a ninth row
	unites(t, row(rec(13, 2, 2)), nil, nil, nil, nil, nil, nil, nil, nil, nil, nil, nil, nil, nil, row(rec(0, 2, 2)))
}

// TestUnionOver: P17.2: places that go beyond 2^64 are what they are by that, and stand so.
func TestUnionOver(t *testing.T) {
	for pos, first := range map[int64]int64{0: 0, -1: -8, 1<<60 - 1: greatest - 7, 1 << 60: least, 1 << 61: 0, 1<<61 + 3: 24, -1 << 60: least, -1<<60 - 1: greatest - 7, least: 0, greatest: -8} {
		unites(t, row(rec(first, 1, 1), rec(first+1, 2, 2), rec(first+2, 3, 3)), row(rec(pos, 1, 1)), row(rec(pos, 2, 2)), row(rec(pos, 3, 3)))
	}
	unites(t, row(rec(least, 2, 2), rec(least+1, 3, 3), rec(0, 1, 1), rec(0, 4, 4), rec(9, 5, 5)), row(rec(0, 1, 1), rec(1<<60, 2, 2), rec(least, 4, 4)), row(rec(1<<60, 3, 3), rec(1<<61+1, 5, 5)))
}

// TestEachKind: P17.2: of NdUnion alone places are put from one another.
func TestEachKind(t *testing.T) {
	a, b := row(rec(3, 1, 1), rec(1, 2, 2)), row(rec(1, 3, 3), rec(2, 4, 4))
	for kind := range 256 {
		rows(t, uint8(kind))
		rows(t, uint8(kind), nil)
		rows(t, uint8(kind), a)
		rows(t, uint8(kind), a, b)
		rows(t, uint8(kind), b, nil, a)
	}
}

// TestRows: P17.2: whatever rows, of places that are the same or not, in order or not; many rows, and long ones.
func TestRows(t *testing.T) {
	d := dice(29)
	for round := range 4000 {
		l := make([][]api.Rec, d.below(6))
		if d.below(40) == 0 {
			l = make([][]api.Rec, d.below(40))
		}
		places := 1 + d.below(30)
		for i := range l {
			for range d.below(12) {
				r := rec(int64(d.below(places)-places/2), d.number(), d.number())
				if d.below(9) == 0 {
					r.Pos = d.number()
				}
				l[i] = append(l[i], r)
			}
			if d.below(3) == 0 {
				slices.SortStableFunc(l[i], func(a, b api.Rec) int { return int(a.Key>>1 - b.Key>>1) })
			}
		}
		rows(t, uint8(round%11), l...)
		rows(t, 8, l...)
	}
}

// TestLongRows: P17.2: of one place in the order in which they came, however many there are.
func TestLongRows(t *testing.T) {
	d := dice(31)
	for _, places := range []int{1, 2, 3, 10, 1000} {
		var l [3][]api.Rec
		next := int64(0)
		for i := range l {
			for range 2000 {
				l[i] = append(l[i], rec(int64(d.below(places)), 0, next))
				next++
			}
		}
		for kind, got := range [][]api.Rec{oper.Merge(l[:]...), oper.Gets(api.Node{Kind: 1}, l[:]...), oper.Gets(api.Node{Kind: 8}, l[:]...)} {
			if len(got) != 6000 {
				t.Fatal(len(got))
			}
			for i, r := range got[1:] {
				if was := got[i]; was.Pos > r.Pos || was.Pos == r.Pos && was.Val >= r.Val {
					t.Fatalf("call %d: %v ahead of %v", kind, was, r)
				}
			}
		}
		rows(t, 8, l[0][:500], l[1][:500], l[2][:500])
	}
}

// TestRowsApart: R3: what Merge and Gets tell is nobody else's, and what was handed in may be changed.
func TestRowsApart(t *testing.T) {
	for _, asks := range []func(l ...[]api.Rec) []api.Rec{
		oper.Merge,
		func(l ...[]api.Rec) []api.Rec { return oper.Gets(api.Node{Kind: 2}, l...) },
		func(l ...[]api.Rec) []api.Rec { return oper.Gets(api.Node{Kind: 8}, l...) },
	} {
		for _, l := range [][][]api.Rec{
			{row(rec(0, 5, 2), rec(0, 5, 3))},
			{nil, row(rec(0, 5, 2), rec(0, 5, 3)), nil},
			{row(rec(0, 5, 2)), row(rec(0, 6, 3), rec(2, 6, 3))},
			{slices.Grow(row(rec(0, 5, 2)), 8), slices.Grow(row(rec(0, 6, 3), rec(2, 6, 3)), 8)},
		} {
			var before [][]api.Rec
			for _, row := range l {
				before = append(before, slices.Clone(row))
			}
			a, b := asks(l...), asks(l...)
			want := slices.Clone(b)
			scribble(a)
			for i := range l {
				if !slices.Equal(l[i], before[i]) {
					t.Errorf("row %d became %v", i, l[i])
				}
				scribble(l[i])
			}
			if !slices.Equal(b, want) {
				t.Errorf("%v became %v", want, b)
			}
		}
	}
}

// TestOneRowTwice: R3: one row that is handed in at two places.
func TestOneRowTwice(t *testing.T) {
	l := row(rec(2, 1, 1), rec(1, 2, 2))
	merges(t, row(rec(1, 2, 2), rec(1, 2, 2), rec(2, 1, 1), rec(2, 1, 1)), l, l)
	unites(t, row(rec(8, 2, 2), rec(9, 2, 2), rec(16, 1, 1), rec(17, 1, 1)), l, l)
	if !slices.Equal(l, row(rec(2, 1, 1), rec(1, 2, 2))) {
		t.Error(l)
	}
}

// partings are ways to part the groups among places: as each par does, each group alone, and some whatever.
func partings(d *dice) [][][]int {
	var l [][][]int
	for par := 1; par <= 4; par++ {
		var parts [][]int
		for place := range par {
			parts = append(parts, group.Owns(place, par))
		}
		l = append(l, parts)
	}
	l = append(l, [][]int{{0}, {1}, {2}, {3}, {4}, {5}, {6}, {7}}, [][]int{nil, groups(), nil})
	for range 4 {
		parts := make([][]int, 1+d.below(9))
		for _, of := range groups() {
			at := d.below(len(parts))
			parts[at] = append(parts[at], of)
		}
		l = append(l, parts)
	}
	return l
}

// parted holds what each part makes of its records, with its table, against what one makes of all.
func parted(t *testing.T, n api.Node, w words, in []api.Rec, parts [][]int) {
	t.Helper()
	whole := w.table(t)
	want := oper.Merge(oper.Do(n, whole, in))
	tables := w.table(t)
	var made [][]api.Rec
	joined := table.New()
	for _, of := range parts {
		tb := tables.Of(of...)
		var some []api.Rec
		for _, r := range in {
			if slices.Contains(of, group.Of(r.Key)) {
				some = append(some, r)
			}
		}
		made = append(made, oper.Do(n, tb, some))
		if e := joined.Join(tb); e != api.OK {
			t.Fatalf("Join: error %d", e)
		}
	}
	if got := oper.Merge(made...); !slices.Equal(got, want) {
		t.Errorf("%s, parted by %v: %v, want %v", told(n), parts, got, want)
	}
	slices.Reverse(made) // whichever part comes first
	if got := oper.Merge(made...); !slices.Equal(got, want) {
		t.Errorf("%s, parted by %v, in reverse: %v, want %v", told(n), parts, got, want)
	}
	if joined.Bytes() != whole.Bytes() {
		t.Errorf("%s, parted by %v: tables % x, want % x", told(n), parts, joined.Bytes(), whole.Bytes())
	}
}

// TestParted: P17.3: records whose places are not the same, parted by their keys, with the tables parted likewise.
func TestParted(t *testing.T) {
	d := dice(37)
	for kind := range uint8(11) {
		for i, text := range texts() {
			for _, keys := range []int{5, 60, 700} {
				n := node(kind, text)
				n.N = 1 + d.below(4)
				in := d.records(100, keys)
				for at := range in {
					in[at].Pos = int64(7*at) - 100
				}
				if i%2 == 1 { // places that fall
					slices.Reverse(in)
				}
				w := d.words(d.below(4)*100, keys)
				for _, parts := range partings(&d) {
					parted(t, n, w, in, parts)
				}
			}
		}
	}
}

// TestPartedFull: P17.3: with tables that are full, or become so.
func TestPartedFull(t *testing.T) {
	d := dice(41)
	for _, n := range []api.Node{node(6, "acc + val"), window(1), window(2), window(3)} {
		for _, w := range []words{{}, fullOf(cell(0, 3), groups()...), fullOf(cell(0, 3), 0, 3, 4), fullOf(cell(4), 1, 7)} {
			in := d.records(600, 1000)
			for at := range in {
				in[at].Pos = int64(at)
			}
			for _, parts := range partings(&d) {
				parted(t, n, w, in, parts)
			}
		}
	}
}

// TestPartedUnion: P17.3: what a union gets of rows that are parted is what it gets, parted.
func TestPartedUnion(t *testing.T) {
	d := dice(43)
	for range 200 {
		l := make([][]api.Rec, 2+d.below(2))
		for i := range l {
			for at := range d.below(30) {
				l[i] = append(l[i], rec(int64(at*3+i), d.number(), d.number()))
			}
		}
		want := oper.Gets(api.Node{Kind: 8}, l...)
		for _, parts := range partings(&d) {
			var made [][]api.Rec
			for _, of := range parts {
				some := make([][]api.Rec, len(l))
				for i, row := range l {
					for _, r := range row {
						if slices.Contains(of, group.Of(r.Key)) {
							some[i] = append(some[i], r)
						}
					}
				}
				made = append(made, oper.Gets(api.Node{Kind: 8}, some...))
			}
			if got := oper.Merge(made...); !slices.Equal(got, want) {
				t.Errorf("parted by %v: %v, want %v", parts, got, want)
			}
		}
	}
}
