package table_test

import (
	"math"
	"slices"
	"testing"

	"changeling/api"
	"changeling/table"
)

// inOrder: keys of all groups, with the edges of numbers, in the order of the chapter, told by hand.
var inOrder = []int64{
	math.MinInt64, math.MinInt64 + 8, -16, -8, 0, 8, 16, math.MaxInt64 - 7,
	math.MinInt64 + 1, -15, -7, 1, 9, 1001, math.MaxInt64 - 6,
	math.MinInt64 + 2, -6, 2, math.MaxInt64 - 5,
	math.MinInt64 + 3, -5, 3, 11, math.MaxInt64 - 4,
	math.MinInt64 + 4, -4, 4, math.MaxInt64 - 3,
	math.MinInt64 + 5, -3, 5, 13, math.MaxInt64 - 2,
	math.MinInt64 + 6, -2, 6, math.MaxInt64 - 1,
	math.MinInt64 + 7, -9, -1, 7, 15, math.MaxInt64 - 8, math.MaxInt64,
}

// few has cells of some lengths.
func few() []entry {
	return []entry{{-8, 5, nil}, {0, 2, nil}, {8, 1, []int64{7}}, {1, 0, []int64{5}}, {-3, -4, []int64{1, -2, math.MinInt64}}, {math.MaxInt64, math.MinInt64, nil}}
}

// TestExamples: the chapter's.
func TestExamples(t *testing.T) {
	tb := table.New()
	put(t, tb, 8, cell(1), api.OK)
	put(t, tb, 0, cell(2), api.OK)
	put(t, tb, 1, cell(0, 5), api.OK)
	keys(t, tb, 0, 8, 1)
	keys(t, tb.Of(0), 0, 8)
	if s := table.New().Bytes(); s != "\x00" {
		t.Errorf("% x", s)
	}
	wrong(t, "", api.ErrShort)
}

// TestConstants: errors and limits by the numbers that the document says.
func TestConstants(t *testing.T) {
	if got := [...]api.Errno{api.OK, api.ErrNil, api.ErrArg, api.ErrFull, api.ErrShort, api.ErrForm}; got != [...]api.Errno{0, 1, 2, 7, 20, 21} {
		t.Error(got)
	}
	if got := [...]int{api.Groups, api.MaxKeys, api.MaxWindow}; got != [...]int{8, 40, 16} {
		t.Error(got)
	}
}

// TestNew: P16.1: no keys; each New is another table.
func TestNew(t *testing.T) {
	a, b := table.New(), table.New()
	holds(t, a, words{})
	rooms(t, a, words{})
	put(t, a, 0, cell(1), api.OK)
	holds(t, b, words{})
	holds(t, a, wordsOf(entry{0, 1, nil}))
	holds(t, table.New(), words{})
}

// TestPut: P16.1: a cell of a key that is not there, and of one that is.
func TestPut(t *testing.T) {
	tb := table.New()
	for _, c := range []api.Cell{cell(1), cell(0, 5), cell(-7, 1, 2, 3), cell(0), cell(math.MaxInt64, math.MinInt64), cell(4, 9), {}, {Acc: 3, L: []int64{}}} {
		put(t, tb, 5, c, api.OK)
		holds(t, tb, wordsOf(entry{5, c.Acc, c.L}))
		put(t, tb, -3, cell(c.Acc+1), api.OK)
		holds(t, tb, wordsOf(entry{5, c.Acc, c.L}, entry{-3, c.Acc + 1, nil}))
		drop(t, tb, -3, true)
	}
}

// TestEdges: P16.1: keys at the edges of numbers are keys as others.
func TestEdges(t *testing.T) {
	for _, key := range inOrder {
		tb := table.New()
		lacks(t, tb, key)
		put(t, tb, key, cell(key, key, -key), api.OK)
		w := wordsOf(entry{key, key, []int64{key, -key}})
		holds(t, tb, w)
		rooms(t, tb, w)
		drop(t, tb, key+1, false)
		drop(t, tb, key-8, false)
		holds(t, tb, w)
		drop(t, tb, key, true)
		drop(t, tb, key, false)
		holds(t, tb, words{})
		rooms(t, tb, words{})
	}
}

// TestDrop: P16.1: what is gone makes room, once; what was not there makes none.
func TestDrop(t *testing.T) {
	tb, w := tableOf(t, few()...), wordsOf(few()...)
	for _, e := range few() {
		drop(t, tb, e.key, w.drop(e.key))
		drop(t, tb, e.key, w.drop(e.key))
		drop(t, tb, e.key+80, w.drop(e.key+80))
		holds(t, tb, w)
		rooms(t, tb, w)
	}
	keys(t, tb)
	put(t, tb, 0, cell(9), api.OK)
	get(t, tb, 0, cell(9))
	put(t, tb, 8, cell(0), api.OK) // without the row that it had
	get(t, tb, 8, cell(0))
}

// TestFull: P16.1: MaxKeys keys of a group, and one more, of each group.
func TestFull(t *testing.T) {
	for of := range 8 {
		tb := tableOf(t, full(of)...)
		w := wordsOf(full(of)...)
		for _, more := range []int64{int64(of) + 160, int64(of) - 168, int64(of) + 1<<40, math.MinInt64 + int64(of), math.MaxInt64 - 7 + int64(of)} {
			put(t, tb, more, cell(1), api.ErrFull)
			put(t, tb, more, cell(1, make([]int64, 16)...), api.ErrFull)
			put(t, tb, more, cell(1, make([]int64, 17)...), api.ErrArg) // named first
			drop(t, tb, more, false)
			put(t, tb, more, cell(1), api.ErrFull)
		}
		holds(t, tb, w)
		for _, key := range groupKeys(of, 40) { // these are there
			put(t, tb, key, cell(key+1, 2), w.put(key, cell(key+1, 2)))
		}
		holds(t, tb, w)
		rooms(t, tb, w)
		for _, key := range groupKeys(of, 40) { // one goes, one comes
			drop(t, tb, key, w.drop(key))
			put(t, tb, key+800, cell(1), w.put(key+800, cell(1)))
			put(t, tb, key, cell(1), api.ErrFull)
		}
		holds(t, tb, w)
		rooms(t, tb, w)
	}
}

// TestAllFull: P16.1: all groups full, filled one by one and in turns.
func TestAllFull(t *testing.T) {
	tb, u := tableOf(t, full(all...)...), table.New()
	for i := range int64(320) {
		key := i - 160
		put(t, u, key, cell(3*key, key), api.OK)
	}
	w := wordsOf(full(all...)...)
	holds(t, tb, w)
	holds(t, u, w)
	for key := int64(-1000); key < 1000; key++ {
		want := api.ErrFull
		if _, is := w[key]; is {
			want = api.OK
		}
		put(t, tb, key, cell(3*key, key), want)
	}
	holds(t, tb, w)
	for key := range w {
		drop(t, u, key, true)
	}
	holds(t, u, words{})
	rooms(t, u, words{})
}

// TestLengths: P16.1: rows of no number, of MaxWindow, and of more; a Put that is refused changes nothing.
func TestLengths(t *testing.T) {
	for length := range 40 {
		l := make([]int64, length)
		for i := range l {
			l[i] = math.MinInt64 >> i
		}
		tb, w := tableOf(t, few()...), wordsOf(few()...)
		for _, key := range []int64{6, 8, -3, math.MinInt64} { // the second and third ones are there
			want := w.put(key, cell(key, l...))
			if is := length > 16; is != (want == api.ErrArg) {
				t.Error(length, want)
			}
			put(t, tb, key, cell(key, l...), want)
			holds(t, tb, w)
		}
		rooms(t, tb, w)
	}
	for _, length := range []int{17, 255, 256, 256 + 16, 1 << 16, 1<<16 + 1, 1 << 20} {
		tb := table.New()
		put(t, tb, 0, cell(0, make([]int64, length)...), api.ErrArg)
		holds(t, tb, words{})
		rooms(t, tb, words{})
	}
}

// TestNumbers: P16.1, P16.4: numbers of each length in keys and cells.
func TestNumbers(t *testing.T) {
	for bit := range 64 {
		for near := int64(-2); near <= 2; near++ {
			for _, n := range []int64{1<<bit + near, -1<<bit + near} {
				e := entry{n, n + 1, []int64{n, -n, 0, n}}
				holds(t, tableOf(t, e), wordsOf(e))
				taken(t, wordsOf(e).bytes(), wordsOf(e))
			}
		}
	}
}

// TestKeys: P16.2: in order, in whatever order they were put.
func TestKeys(t *testing.T) {
	keys(t, table.New())
	d := dice(1)
	for range 200 {
		l := slices.Clone(inOrder)
		for i := range l {
			at := i + d.below(len(l)-i)
			l[i], l[at] = l[at], l[i]
		}
		tb := table.New()
		for _, key := range l {
			put(t, tb, key, cell(key), api.OK)
		}
		keys(t, tb, inOrder...)
		for _, key := range l[:20] {
			drop(t, tb, key, true)
		}
		keys(t, tb, slices.DeleteFunc(slices.Clone(inOrder), func(key int64) bool { return slices.Contains(l[:20], key) })...)
	}
}

// TestOf: P16.2: no group, one, one named twice, one that is none, all.
func TestOf(t *testing.T) {
	tb := table.New()
	for _, key := range inOrder {
		put(t, tb, key, cell(key, 1, key), api.OK)
	}
	w := words{}
	for _, key := range inOrder {
		w.put(key, cell(key, 1, key))
	}
	asks := [][]int{
		nil, {}, {0}, {3}, {7}, {0, 0}, {7, 7, 7}, {2, 1, 2}, {0, 7}, {7, 0}, all, {7, 6, 5, 4, 3, 2, 1, 0}, {0, 1, 2, 3, 4, 5, 6, 7, 0, 1, 2, 3, 4, 5, 6, 7},
		{-1}, {8}, {-8}, {9}, {16}, {-7, -6, -5}, {256}, {257}, {1 << 32}, {1<<32 + 1}, {math.MinInt}, {math.MaxInt}, {math.MinInt + 1, math.MaxInt - 7}, {-1, 4, 8}, {4, math.MaxInt, 4}, {99, 5},
	}
	for set := range 256 {
		var groups []int
		for of := range 8 {
			if set>>of&1 == 1 {
				groups = append(groups, of)
			}
		}
		asks = append(asks, groups)
	}
	for _, groups := range asks {
		handed := slices.Clone(groups)
		u := tb.Of(groups...)
		holds(t, u, w.of(groups...))
		rooms(t, u, w.of(groups...))
		if !slices.Equal(groups, handed) {
			t.Errorf("Of(%d) made that of %d", groups, handed)
		}
	}
	holds(t, tb.Of(), words{})
	holds(t, table.New().Of(all...), words{})
	holds(t, tb, w)
	long := make([]int, 1<<16)
	long[1<<16-1] = 1
	holds(t, tb.Of(long...), w.of(0, 1))
}

// joined asks Join, and holds both tables against the words behind it.
func joined(t *testing.T, a, b []entry, want api.Errno) {
	t.Helper()
	tb, u := tableOf(t, a...), tableOf(t, b...)
	w, v := wordsOf(a...), wordsOf(b...)
	if e := w.join(v); e != want {
		t.Errorf("by the words: error %d, want %d", e, want)
	}
	if e := tb.Join(u); e != want {
		t.Errorf("Join of %d and %d keys: error %d, want %d", len(a), len(b), e, want)
	}
	holds(t, tb, w)
	holds(t, u, v)
	rooms(t, tb, w)
	rooms(t, u, v)
}

// TestJoin: P16.2: tables that have no key in both; that share one; that would be too many of a group.
func TestJoin(t *testing.T) {
	joined(t, nil, nil, api.OK)
	joined(t, few(), nil, api.OK)
	joined(t, nil, few(), api.OK)
	joined(t, few(), []entry{{16, 3, nil}, {-1, 3, []int64{4}}, {math.MinInt64, 1, nil}}, api.OK)
	for at, e := range few() {
		joined(t, few(), []entry{e}, api.ErrArg)
		joined(t, []entry{e}, few(), api.ErrArg)
		joined(t, few(), []entry{{100, 1, nil}, {e.key, 77, nil}, {101, 1, nil}}, api.ErrArg)
		joined(t, few()[:at], few()[at:], api.OK)
	}
	joined(t, few(), few(), api.ErrArg)
	for of := range 8 {
		f := full(of)
		joined(t, f, nil, api.OK)
		joined(t, nil, f, api.OK)
		joined(t, f[:20], f[20:], api.OK)
		joined(t, f[:39], f[39:], api.OK)
		more := entry{int64(of) + 1600, 4, nil}
		joined(t, f, []entry{more}, api.ErrFull)
		joined(t, []entry{more}, f, api.ErrFull)
		joined(t, f[:39], []entry{more}, api.OK)
		joined(t, f[:30], append(f[30:], more), api.ErrFull)
		joined(t, f[:39], append(full((of+1)%8), f[39], more), api.ErrFull)
		joined(t, append(full((of+7)%8), f...), []entry{more, {int64(of) + 3201, 1, nil}}, api.ErrFull)
		joined(t, f, full((of+3)%8), api.OK)
		joined(t, f, append(full((of+3)%8), f[20]), api.ErrArg)
		joined(t, f, []entry{more, f[0]}, api.ErrArg) // would be too many, too: named first
		joined(t, f, []entry{more, f[39]}, api.ErrArg)
		joined(t, f, f, api.ErrArg)
	}
	joined(t, full(all[:4]...), full(all[4:]...), api.OK)
	joined(t, full(all...), full(all...), api.ErrArg)
	joined(t, full(all...), nil, api.OK)
}

// TestJoinItself: P16.2: all its keys are in both; of one without keys none is.
func TestJoinItself(t *testing.T) {
	for _, l := range [][]entry{few(), few()[:1], full(3), full(all...)} {
		tb := tableOf(t, l...)
		if e := tb.Join(tb); e != api.ErrArg {
			t.Errorf("error %d", e)
		}
		holds(t, tb, wordsOf(l...))
		rooms(t, tb, wordsOf(l...))
	}
	tb := table.New()
	if e := tb.Join(tb); e != api.OK {
		t.Errorf("error %d", e)
	}
	holds(t, tb, words{})
	rooms(t, tb, words{})
}

// TestNil: R4: each method of nil, and Join of nil.
func TestNil(t *testing.T) {
	var none *table.Table
	put(t, none, 0, cell(1), api.ErrNil)
	put(t, none, 0, cell(1, make([]int64, 17)...), api.ErrNil)
	lacks(t, none, inOrder...)
	drop(t, none, 0, false)
	keys(t, none)
	for _, groups := range [][]int{nil, {0}, {-1, 8}, all} {
		if u := none.Of(groups...); u != nil {
			t.Error(groups, u)
		}
	}
	if u := none.Copy(); u != nil {
		t.Error(u)
	}
	if s := none.Bytes(); s != "" {
		t.Errorf("% x", s)
	}
	tb := tableOf(t, few()...)
	for _, e := range []api.Errno{none.Join(nil), none.Join(tb), none.Join(table.New()), tb.Join(nil), table.New().Join(nil)} {
		if e != api.ErrNil {
			t.Errorf("error %d", e)
		}
	}
	holds(t, tb, wordsOf(few()...))
}

// TestCopy: P16.2: another one that is the same.
func TestCopy(t *testing.T) {
	for _, l := range [][]entry{nil, few(), full(2), full(all...)} {
		tb, w := tableOf(t, l...), wordsOf(l...)
		u := tb.Copy()
		if u == tb {
			t.Error("not another one")
		}
		holds(t, u, w)
		rooms(t, u, w)
		holds(t, u.Copy(), w)
		holds(t, tb, w)
	}
}

// scribble writes into a row, and behind its end.
func scribble(l []int64) {
	for i := range l {
		l[i] = -77
	}
	l = l[:cap(l)]
	for i := range l {
		l[i] = -78
	}
}

// TestRowsApart: P16.1, R3: rows that are changed behind Put, and behind Get.
func TestRowsApart(t *testing.T) {
	for length := range 17 {
		for _, room := range []int{0, 1, 16} {
			l := make([]int64, length, length+room)
			for i := range l {
				l[i] = int64(i + 1)
			}
			w := wordsOf(entry{4, 9, slices.Clone(l)})
			tb := table.New()
			put(t, tb, 4, api.Cell{Acc: 9, L: l}, api.OK)
			scribble(l)
			holds(t, tb, w)
			a, _ := tb.Get(4)
			b, _ := tb.Get(4)
			scribble(a.L)
			if !slices.Equal(b.L, w[4].l) {
				t.Errorf("another answer became %d", b.L)
			}
			_ = append(a.L, 5)
			holds(t, tb, w)
			scribble(b.L[:0])
			holds(t, tb, w)
		}
	}
}

// TestOneRow: P16.1, R3: one row that is put at several keys, and put anew as it was got.
func TestOneRow(t *testing.T) {
	l := []int64{1, 2, 3}
	tb := table.New()
	put(t, tb, 0, api.Cell{L: l}, api.OK)
	put(t, tb, 1, api.Cell{L: l[:2]}, api.OK)
	put(t, tb, 2, api.Cell{L: l[1:]}, api.OK)
	c, _ := tb.Get(0)
	put(t, tb, 3, c, api.OK)
	c.L[0] = 9
	put(t, tb, 4, c, api.OK)
	c.L[1] = 9
	l[1] = 7
	holds(t, tb, wordsOf(entry{0, 0, []int64{1, 2, 3}}, entry{1, 0, []int64{1, 2}}, entry{2, 0, []int64{2, 3}}, entry{3, 0, []int64{1, 2, 3}}, entry{4, 0, []int64{9, 2, 3}}))
}

// TestKeysApart: R3: keys that are answered are nobody else's.
func TestKeysApart(t *testing.T) {
	tb := tableOf(t, few()...)
	a, b := tb.Keys(), tb.Keys()
	scribble(a)
	if !slices.Equal(b, wordsOf(few()...).keys()) {
		t.Error(b)
	}
	holds(t, tb, wordsOf(few()...))
}

// change puts, puts anew and drops, and scribbles on rows that it got.
func change(t *testing.T, tb *table.Table) {
	t.Helper()
	for i, key := range tb.Keys() {
		c, _ := tb.Get(key)
		scribble(c.L)
		switch i % 3 {
		case 0:
			drop(t, tb, key, true)
		case 1:
			put(t, tb, key, cell(-1, -1, -1), api.OK)
		}
	}
	put(t, tb, 4000, cell(1), api.OK)
	put(t, tb, 4001, cell(1, 2), api.OK)
	put(t, tb, 4007, cell(1, 2), api.OK)
}

// TestTablesApart: P16.2, R3: a table goes on beside its Copy, its Of, and the one that was joined to it.
func TestTablesApart(t *testing.T) {
	w := wordsOf(few()...)
	makes := []func(tb *table.Table) *table.Table{
		(*table.Table).Copy,
		func(tb *table.Table) *table.Table { return tb.Of(all...) },
		func(tb *table.Table) *table.Table {
			u := table.New()
			u.Join(tb)
			return u
		},
	}
	for _, make := range makes {
		tb := tableOf(t, few()...)
		u := make(tb)
		holds(t, u, w)
		change(t, tb)
		holds(t, u, w)
		rooms(t, u, w)
		tb = tableOf(t, few()...)
		u = make(tb)
		change(t, u)
		holds(t, tb, w)
		rooms(t, tb, w)
	}
	tb, u := tableOf(t, few()[:3]...), tableOf(t, few()[3:]...)
	if e := tb.Join(u); e != api.OK {
		t.Error(e)
	}
	change(t, tb)
	holds(t, u, wordsOf(few()[3:]...))
	tb, u = tableOf(t, few()[:3]...), tableOf(t, few()[3:]...)
	if e := tb.Join(u); e != api.OK {
		t.Error(e)
	}
	change(t, u)
	holds(t, tb, w)
	rooms(t, tb, w)
}

// TestMixed: P16.1 to P16.4: long mixed rows of calls, of few groups, so that these become full, against the words.
func TestMixed(t *testing.T) {
	d := dice(16)
	for round := range 60 {
		tb, w := table.New(), words{}
		groups := 1 + round%8
		for range 600 {
			key := int64(d.below(50*groups)/groups-25)*8 + int64(d.below(groups))
			switch d.below(10) {
			case 0, 1, 2, 3, 4, 5:
				c := d.cell(18)
				put(t, tb, key, c, w.put(key, c))
			case 6:
				drop(t, tb, key, w.drop(key))
			case 7:
				some := d.entries(3, 3)
				if e := tb.Join(tableOf(t, some...)); e != w.join(wordsOf(some...)) {
					t.Errorf("Join of %v: error %d", some, e)
				}
			case 8:
				if d.below(8) == 0 {
					pick := []int{d.below(groups), d.below(groups), d.below(groups), d.below(10) - 1}
					tb, w = tb.Of(pick...), w.of(pick...)
				}
			case 9:
				if _, is := w[key]; !is {
					lacks(t, tb, key)
				} else {
					get(t, tb, key, cell(w[key].acc, w[key].l...))
				}
			}
		}
		holds(t, tb, w)
		rooms(t, tb, w)
		taken(t, tb.Bytes(), w)
	}
}
