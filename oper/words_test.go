package oper_test

import (
	"math"
	"math/big"
	"slices"
	"strconv"
	"testing"

	"changeling/api"
	"changeling/eval"
	"changeling/expr"
	"changeling/oper"
	"changeling/table"
)

const (
	least    = math.MinInt64
	greatest = math.MaxInt64
)

// words are a table as the chapters' words tell it: its cells by their keys; nil words are those of a nil table.
type words map[int64]api.Cell

// rest is the group of a key: the lowest bits of a number are its rest, also below 0.
func rest(key int64) int { return int(uint64(key) & 7) }

// full: whether there is no room for a key.
func (w words) full(key int64) bool {
	if w == nil {
		return true
	}
	if _, is := w[key]; is {
		return false
	}
	many := 0
	for other := range w {
		if rest(other) == rest(key) {
			many++
		}
	}
	return many >= 40
}

// wrapped is a sum of products of two numbers each, by 2^64, reckoned by numbers that never run over.
func wrapped(pairs ...[2]int64) int64 {
	z := new(big.Int)
	for _, p := range pairs {
		z.Add(z, new(big.Int).Mul(big.NewInt(p[0]), big.NewInt(p[1])))
	}
	z.Mod(z, new(big.Int).Lsh(big.NewInt(1), 64))
	if z.Bit(63) == 1 {
		z.Sub(z, new(big.Int).Lsh(big.NewInt(1), 64))
	}
	return z.Int64()
}

// made is what a node makes of one record, by the chapter's words; the words of its table go on.
func (w words) made(n api.Node, r api.Rec) []api.Rec {
	env := api.Env{Key: r.Key, Val: r.Val}
	if n.Kind == 6 && w != nil {
		env.Acc = w[r.Key].Acc
	}
	value, _ := eval.Do(n.X, env) // the zero value, where X comes to nothing
	x := value.N
	switch n.Kind {
	case 2:
		return []api.Rec{{Pos: r.Pos, Key: r.Key, Val: x}}
	case 3:
		if value.True {
			return []api.Rec{r}
		}
		return nil
	case 4:
		var l []api.Rec
		for i := int64(0); i < 4 && i < x; i++ {
			l = append(l, api.Rec{Pos: wrapped([2]int64{8, r.Pos}, [2]int64{1, i}), Key: r.Key, Val: wrapped([2]int64{1, r.Val}, [2]int64{1, i})})
		}
		return l
	case 5:
		return []api.Rec{{Pos: r.Pos, Key: x, Val: r.Val}}
	case 6:
		if w.full(r.Key) {
			return nil
		}
		w[r.Key] = api.Cell{Acc: x}
		return []api.Rec{{Pos: r.Pos, Key: r.Key, Val: x}}
	case 7:
		return w.windowed(n.N, r)
	}
	return []api.Rec{r}
}

func (w words) windowed(most int, r api.Rec) []api.Rec {
	if w.full(r.Key) {
		return nil
	}
	c := w[r.Key]
	l := append(slices.Clone(c.L), r.Val)
	if len(l) < most {
		if len(l) <= 16 {
			w[r.Key] = api.Cell{Acc: c.Acc, L: l}
		}
		return nil
	}
	delete(w, r.Key)
	var pairs [][2]int64
	for _, n := range l {
		pairs = append(pairs, [2]int64{1, n})
	}
	return []api.Rec{{Pos: r.Pos, Key: r.Key, Val: wrapped(pairs...)}}
}

// merged are all records: the first one of those with the least place comes next.
func merged(rows ...[]api.Rec) []api.Rec {
	var left, l []api.Rec
	for _, row := range rows {
		left = append(left, row...)
	}
	for len(left) > 0 {
		at := 0
		for i, r := range left {
			if r.Pos < left[at].Pos {
				at = i
			}
		}
		l = append(l, left[at])
		left = slices.Delete(left, at, at+1)
	}
	return l
}

// gets is what a node gets of rows, by the chapter's words.
func gets(n api.Node, rows ...[]api.Rec) []api.Rec {
	if n.Kind != 8 {
		return merged(rows...)
	}
	placed := make([][]api.Rec, len(rows))
	for b, row := range rows {
		for _, r := range row {
			r.Pos = wrapped([2]int64{8, r.Pos}, [2]int64{1, int64(b)})
			placed[b] = append(placed[b], r)
		}
	}
	return merged(placed...)
}

// table is that of these words; nil of nil ones.
func (w words) table(t *testing.T) *table.Table {
	t.Helper()
	if w == nil {
		return nil
	}
	tb := table.New()
	for key, c := range w {
		if e := tb.Put(key, c); e != api.OK {
			t.Fatalf("Put(%d, %v): error %d", key, c, e)
		}
	}
	return tb
}

// copied has the same cells.
func (w words) copied() words {
	if w == nil {
		return nil
	}
	v := words{}
	for key, c := range w {
		v[key] = api.Cell{Acc: c.Acc, L: slices.Clone(c.L)}
	}
	return v
}

// keeps asks a table for all that it has: what these words have, and nothing else.
func keeps(t *testing.T, tb *table.Table, w words) {
	t.Helper()
	if (tb == nil) != (w == nil) {
		t.Fatalf("a table %v for words %v", tb, w)
	}
	if l := tb.Keys(); len(l) != len(w) {
		t.Errorf("%d keys %d, want %d", len(l), l, len(w))
	}
	for key, want := range w {
		if c, is := tb.Get(key); !is || c.Acc != want.Acc || !slices.Equal(c.L, want.L) {
			t.Errorf("of %d there is %v, %v, want %v", key, c, is, want)
		}
	}
}

// does asks Do for these records, and the table for these words behind it; what is handed in stays as it is, also behind its end.
func does(t *testing.T, n api.Node, tb *table.Table, in, want []api.Rec, w words) {
	t.Helper()
	handed := append(slices.Clone(in), api.Rec{Pos: -5, Key: -6, Val: -7})
	before, x, places := slices.Clone(handed), copied(n.X), slices.Clone(n.In)
	got := oper.Do(n, tb, handed[:len(in)])
	if !slices.Equal(got, want) {
		t.Errorf("Do(%s, %v) = %v, want %v", told(n), in, got, want)
	}
	if !slices.Equal(handed, before) || !alike(n.X, x) || !slices.Equal(n.In, places) {
		t.Errorf("Do(%s, %v) made that of %v", told(n), handed, before)
	}
	keeps(t, tb, w)
}

// byWords asks Do for what the chapter's words tell, and answers it.
func byWords(t *testing.T, n api.Node, w words, in []api.Rec) []api.Rec {
	t.Helper()
	tb := w.table(t)
	v := w.copied()
	var want []api.Rec
	for _, r := range in {
		want = append(want, v.made(n, r)...)
	}
	does(t, n, tb, in, want, v)
	one := w.table(t) // the same, where the records come one by one
	var l []api.Rec
	for _, r := range in {
		l = append(l, oper.Do(n, one, []api.Rec{r})...)
	}
	if !slices.Equal(l, want) {
		t.Errorf("Do(%s) of %v one by one = %v, want %v", told(n), in, l, want)
	}
	keeps(t, one, v)
	return want
}

// rows asks Merge and Gets for what the chapter's words tell; what is handed in stays as it is.
func rows(t *testing.T, kind uint8, l ...[]api.Rec) {
	t.Helper()
	handed := make([][]api.Rec, len(l))
	before := make([][]api.Rec, len(l))
	for i, row := range l {
		full := append(slices.Clone(row), api.Rec{Pos: -8, Key: -8, Val: -8})
		handed[i], before[i] = full[:len(row)], slices.Clone(full)
	}
	n := api.Node{Kind: kind}
	if got, want := oper.Gets(n, handed...), gets(n, l...); !slices.Equal(got, want) {
		t.Errorf("Gets(%d, %v) = %v, want %v", kind, l, got, want)
	}
	if got, want := oper.Merge(handed...), merged(l...); !slices.Equal(got, want) {
		t.Errorf("Merge(%v) = %v, want %v", l, got, want)
	}
	for i, row := range handed {
		if len(row) != len(l[i]) || !slices.Equal(row[:len(row)+1], before[i]) {
			t.Errorf("row %d became %v", i, row)
		}
	}
}

// told tells a node so that a failed test shows it.
func told(n api.Node) string {
	return "kind " + strconv.Itoa(int(n.Kind)) + " X " + line(n.X, 0) + " N " + strconv.Itoa(n.N)
}

// line tells an expression, as deep as it is worth reading.
func line(x api.Expr, deep int) string {
	s := "o" + strconv.Itoa(int(x.Op))
	if x.N != 0 {
		s += "#" + strconv.FormatInt(x.N, 10)
	}
	if deep > 4 {
		return s + ".."
	}
	for _, a := range x.Args {
		s += " (" + line(a, deep+1) + ")"
	}
	return s
}

// copied shares nothing with x; it goes some levels deep, as an expression may have itself in it.
func copied(x api.Expr) api.Expr { return copiedTo(x, 6) }

func copiedTo(x api.Expr, levels int) api.Expr {
	y := api.Expr{Op: x.Op, N: x.N}
	for _, a := range x.Args {
		if levels > 0 {
			y.Args = append(y.Args, copiedTo(a, levels-1))
		}
	}
	return y
}

// alike: whether x is as its copy, so deep as that goes.
func alike(x, y api.Expr) bool { return alikeTo(x, y, 6) }

func alikeTo(x, y api.Expr, levels int) bool {
	if x.Op != y.Op || x.N != y.N {
		return false
	}
	if levels == 0 {
		return true
	}
	return slices.EqualFunc(x.Args, y.Args, func(a, b api.Expr) bool { return alikeTo(a, b, levels-1) })
}

// read is the expression of a text that has one.
func read(s string) api.Expr {
	x, _, e := expr.Parse(s)
	if e != api.OK {
		panic(s)
	}
	return x
}

// node is one of a kind, with the expression of a text.
func node(kind uint8, s string) api.Node {
	return api.Node{Uid: "n", Kind: kind, In: []int{0}, X: read(s)}
}

func window(most int) api.Node { return api.Node{Uid: "w", Kind: 7, In: []int{0}, N: most} }

func cell(acc int64, l ...int64) api.Cell { return api.Cell{Acc: acc, L: l} }

// fullOf are as many keys as may be of these groups, each with a cell.
func fullOf(c api.Cell, groups ...int) words {
	w := words{}
	for _, of := range groups {
		for i := range int64(40) {
			w[int64(of)+8*(i-20)] = api.Cell{Acc: c.Acc, L: slices.Clone(c.L)}
		}
	}
	return w
}

// groups are all of them.
func groups() []int { return []int{0, 1, 2, 3, 4, 5, 6, 7} }

// edges are numbers at which something may change.
func edges() []int64 {
	return []int64{0, 1, -1, 2, 3, 4, 5, 7, 8, -8, 1 << 32, 1<<60 - 1, 1 << 60, 1 << 61, -1 << 60, -1<<60 - 1, least, least + 1, greatest, greatest - 1}
}

// dice throws numbers that hang on nothing but how often it was thrown.
type dice uint64

func (d *dice) below(n int) int {
	*d = *d*6364136223846793005 + 1442695040888963407
	return int(uint64(*d) >> 33 % uint64(n))
}

// number is a small one, an edge, or one of whatever length.
func (d *dice) number() int64 {
	switch d.below(4) {
	case 0:
		return edges()[d.below(len(edges()))]
	case 1:
		n := int64(d.below(1<<31))<<33 ^ int64(d.below(1<<31))<<2 ^ int64(d.below(4))
		return n >> d.below(64)
	}
	return int64(d.below(12)) - 4
}

// records are so many; their keys are some of so many.
func (d *dice) records(many, keys int) []api.Rec {
	var l []api.Rec
	for i := range many {
		r := api.Rec{Pos: int64(i), Key: int64(d.below(keys) - keys/2), Val: d.number()}
		if d.below(3) == 0 {
			r.Pos = d.number()
		}
		if d.below(12) == 0 {
			r.Key = d.number()
		}
		l = append(l, r)
	}
	return l
}

// words has cells of some of so many keys, with whatever Acc, and rows of whatever lengths.
func (d *dice) words(throws, keys int) words {
	w := words{}
	for range throws {
		key := int64(d.below(keys) - keys/2)
		if d.below(12) == 0 {
			key = d.number()
		}
		if w.full(key) {
			continue
		}
		c := api.Cell{Acc: d.number()}
		for range d.below(18) % 17 {
			c.L = append(c.L, d.number())
		}
		w[key] = c
	}
	return w
}

// texts are expressions that nodes have, of both types.
func texts() []string {
	return []string{"1", "0", "3", "5", "val", "key", "acc", "-val", "key + val", "acc + val", "acc * 3 - key", "val % 7", "key / 2", "if val < acc then acc else val", "if val % 2 = 0 then key else 0 - val", "val < 3", "key = val", "val % 2 = 0", "! (acc < val)", "1 = 1", "1 != 1", "acc < key | val < 0"}
}

// strange are expressions that come to nothing.
func strange() []api.Expr {
	key, yes := read("key"), read("1 = 1")
	ring := api.Expr{Op: api.ExNeg, Args: make([]api.Expr, 1)}
	ring.Args[0] = ring
	deep, shared := key, key
	for range 16 {
		deep = api.Expr{Op: api.ExNeg, Args: []api.Expr{deep}}
		shared = api.Expr{Op: api.ExAdd, Args: []api.Expr{shared, shared}}
	}
	return []api.Expr{
		{}, {Op: 19}, {Op: 255, N: 3}, {Op: api.ExNum, N: -1}, {Op: api.ExKey, N: 1}, {Op: api.ExVal, Args: []api.Expr{key}},
		{Op: api.ExAdd}, {Op: api.ExAdd, Args: []api.Expr{key}}, {Op: api.ExAdd, Args: []api.Expr{key, yes}}, {Op: api.ExNot, Args: []api.Expr{key}},
		{Op: api.ExIf, Args: []api.Expr{yes, key, yes}}, {Op: api.ExIf, Args: []api.Expr{key, key, key}}, {Op: api.ExAnd, Args: []api.Expr{yes, key}},
		ring, deep, shared,
	}
}
