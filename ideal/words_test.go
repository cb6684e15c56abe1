package ideal_test

import (
	"encoding/binary"
	"math"
	"math/big"
	"slices"
	"strconv"
	"strings"
	"testing"

	"changeling/api"
	"changeling/eval"
	"changeling/ideal"
	"changeling/job"
	"changeling/script"
	"changeling/table"
)

const (
	least    = math.MinInt64
	greatest = math.MaxInt64
)

// kept is what a node keeps, by keys.
type kept map[int64]api.Cell

// words are an ideal as the chapters' words tell it: nodes, and what those keep that keep something, by their places.
type words struct {
	nodes []api.Node
	keeps map[int]kept
}

// placed is a record whose place is told to the base 8: 8 times a place and a number below 8 together is one digit more. Such a place never runs over.
type placed struct {
	pos      string
	key, val int64
}

// wordsOf are those of a job that may be, with what is kept by Uids.
func wordsOf(j api.Job, keeps map[string]kept) words {
	w := words{nodes: copied(j).Nodes, keeps: map[int]kept{}}
	for at, n := range w.nodes {
		if n.Kind == 6 || n.Kind == 7 {
			w.keeps[at] = copiedCells(keeps[n.Uid])
		}
	}
	return w
}

// copied shares nothing with w.
func (w words) copied() words {
	v := words{nodes: copied(api.Job{Nodes: w.nodes}).Nodes, keeps: map[int]kept{}}
	for at, k := range w.keeps {
		v.keeps[at] = copiedCells(k)
	}
	return v
}

func copiedCells(k kept) kept {
	l := kept{}
	for key, c := range k {
		l[key] = cell(c.Acc, slices.Clone(c.L)...)
	}
	return l
}

// rest is the group of a key: the lowest bits of a number are its rest, also below 0.
func rest(key int64) int { return int(uint64(key) & 7) }

// full: whether there is no room for a key.
func (k kept) full(key int64) bool {
	many := 0
	for other := range k {
		if other == key {
			return false
		}
		if rest(other) == rest(key) {
			many++
		}
	}
	return many >= 40
}

// inOrder are the keys, in the order of chapter 16.
func (k kept) inOrder() []int64 {
	var l []int64
	for of := range 8 {
		var some []int64
		for key := range k {
			if rest(key) == of {
				some = append(some, key)
			}
		}
		slices.Sort(some)
		l = append(l, some...)
	}
	return l
}

// bytes are a table's, by the library's own zigzag numbers, which have the form of chapter 2.
func (k kept) bytes() string {
	b := binary.AppendVarint(nil, int64(len(k)))
	for _, key := range k.inOrder() {
		b = binary.AppendVarint(b, key)
		b = binary.AppendVarint(b, k[key].Acc)
		b = binary.AppendVarint(b, int64(len(k[key].L)))
		for _, n := range k[key].L {
			b = binary.AppendVarint(b, n)
		}
	}
	return string(b)
}

// table has these cells.
func (k kept) table(t *testing.T) *table.Table {
	t.Helper()
	tb := table.New()
	for key, c := range k {
		if e := tb.Put(key, c); e != api.OK {
			t.Fatalf("Put(%d, %v): error %d", key, c, e)
		}
	}
	return tb
}

// wrapped is the sum of these by 2^64, reckoned by numbers that never run over.
func wrapped(l ...int64) int64 {
	z := new(big.Int)
	for _, n := range l {
		z.Add(z, big.NewInt(n))
	}
	z.Mod(z, new(big.Int).Lsh(big.NewInt(1), 64))
	if z.Bit(63) == 1 {
		z.Sub(z, new(big.Int).Lsh(big.NewInt(1), 64))
	}
	return z.Int64()
}

// made is what the node n makes of a record, by the words of chapter 17, if it keeps this.
func (k kept) made(n api.Node, r placed) []placed {
	env := api.Env{Key: r.key, Val: r.val}
	if n.Kind == 6 {
		env.Acc = k[r.key].Acc
	}
	x, _ := eval.Do(n.X, env)
	switch n.Kind {
	case 2:
		return []placed{{r.pos, r.key, x.N}}
	case 3:
		if !x.True {
			return nil
		}
	case 4:
		var l []placed
		for i := int64(0); i < 4 && i < x.N; i++ {
			l = append(l, placed{r.pos + strconv.FormatInt(i, 8), r.key, wrapped(r.val, i)})
		}
		return l
	case 5:
		return []placed{{r.pos, x.N, r.val}}
	case 6:
		if k.full(r.key) {
			return nil
		}
		k[r.key] = cell(x.N)
		return []placed{{r.pos, r.key, x.N}}
	case 7:
		if k.full(r.key) {
			return nil
		}
		l := append(slices.Clone(k[r.key].L), r.val)
		if len(l) < n.N {
			k[r.key] = cell(0, l...)
			return nil
		}
		delete(k, r.key)
		return []placed{{r.pos, r.key, wrapped(l...)}}
	}
	return []placed{r}
}

// merged are all of them, rising; no two have one place, where all come of one record.
func merged(l []placed) []placed {
	l = slices.Clone(l)
	slices.SortFunc(l, func(a, b placed) int {
		if len(a.pos) != len(b.pos) {
			return len(a.pos) - len(b.pos)
		}
		return strings.Compare(a.pos, b.pos)
	})
	for i := range l {
		if i > 0 && l[i].pos == l[i-1].pos {
			panic("two records at " + l[i].pos)
		}
	}
	return l
}

// feed is what comes out of a record, by the words of chapter 18; what is kept goes on.
func (w words) feed(key, val int64) []api.Rec {
	made := make([][]placed, len(w.nodes))
	for at, n := range w.nodes {
		var in []placed
		if at == 0 {
			in = []placed{{"1", key, val}}
		}
		for b, i := range n.In {
			for _, r := range made[i] {
				if n.Kind == 8 {
					r.pos += strconv.Itoa(b)
				}
				in = append(in, r)
			}
		}
		for _, r := range merged(in) {
			made[at] = append(made[at], w.keeps[at].made(n, r)...)
		}
	}
	var l []api.Rec
	for _, r := range merged(made[len(made)-1]) {
		pos, err := strconv.ParseInt(r.pos, 8, 64)
		if err != nil {
			panic(err)
		}
		l = append(l, api.Rec{Pos: pos, Key: r.key, Val: r.val})
	}
	return l
}

func (w words) states() []api.State {
	var l []api.State
	for at, n := range w.nodes {
		if n.Kind == 6 || n.Kind == 7 {
			l = append(l, api.State{Uid: n.Uid, Bytes: w.keeps[at].bytes()})
		}
	}
	return l
}

// may: whether a node keeps such cells, by the chapter's words.
func (k kept) may(n api.Node) bool {
	for _, c := range k {
		many := len(c.L)
		if n.Kind == 6 && many > 0 || n.Kind == 7 && (c.Acc != 0 || many == 0 || many >= n.N) {
			return false
		}
	}
	return n.Kind == 6 || n.Kind == 7
}

// cellsOf are a table's.
func cellsOf(tb *table.Table) kept {
	k := kept{}
	for _, key := range tb.Keys() {
		k[key], _ = tb.Get(key)
	}
	return k
}

// load is Load by the chapter's words.
func load(j api.Job, l []api.State) (words, api.Errno) {
	if _, e := job.May(j); e != api.OK {
		return words{}, 2
	}
	keeps := map[string]kept{}
	for i, s := range l {
		at := slices.IndexFunc(j.Nodes, func(n api.Node) bool { return n.Uid == s.Uid && (n.Kind == 6 || n.Kind == 7) })
		if at < 0 || slices.ContainsFunc(l[:i], func(ahead api.State) bool { return ahead.Uid == s.Uid }) {
			return words{}, 180
		}
		tb, e := table.Take(s.Bytes)
		if e != api.OK {
			return words{}, e
		}
		if keeps[s.Uid] = cellsOf(tb); !keeps[s.Uid].may(j.Nodes[at]) {
			return words{}, 181
		}
	}
	return wordsOf(j, keeps), 0
}

func copiedExpr(x api.Expr) api.Expr {
	y := api.Expr{Op: x.Op, N: x.N}
	for _, a := range x.Args {
		y.Args = append(y.Args, copiedExpr(a))
	}
	return y
}

// copied shares nothing with j.
func copied(j api.Job) api.Job {
	k := api.Job{Par: j.Par}
	for _, n := range j.Nodes {
		n.In, n.X = slices.Clone(n.In), copiedExpr(n.X)
		k.Nodes = append(k.Nodes, n)
	}
	return k
}

func cell(acc int64, l ...int64) api.Cell { return api.Cell{Acc: acc, L: l} }

// jobOf is the one of a text's lines, behind that of Par.
func jobOf(lines ...string) api.Job {
	j, at, e := script.Parse("par 2\n" + strings.Join(lines, "\n"))
	if e != api.OK {
		panic("error " + strconv.Itoa(int(e)) + " in line " + strconv.Itoa(at) + " of " + strings.Join(lines, "; "))
	}
	return j
}

// told tells a job so that a failed test shows it.
func told(j api.Job) string {
	s, e := script.Text(j)
	if e != api.OK {
		return "a job that may not be"
	}
	return strings.ReplaceAll(s, "\n", "; ")
}

// both is an ideal, and the words that it is to go on as.
type both struct {
	d *ideal.Ideal
	w words
	j api.Job
}

// fed asks Feed for what the words tell, and answers it.
func (b both) fed(t *testing.T, key, val int64) []api.Rec {
	t.Helper()
	want := b.w.feed(key, val)
	got := b.d.Feed(key, val)
	if !slices.Equal(got, want) {
		t.Fatalf("%s\nFeed(%d, %d) = %v, want %v", told(b.j), key, val, got, want)
	}
	return got
}

// tells asks States for what the words tell.
func (b both) tells(t *testing.T) []api.State {
	t.Helper()
	states(t, b.d, b.w.states()...)
	return b.d.States()
}

// states asks States for these.
func states(t *testing.T, d *ideal.Ideal, want ...api.State) {
	t.Helper()
	if got := d.States(); !slices.Equal(got, want) {
		t.Fatalf("States() = %q, want %q", got, want)
	}
}

// made asks New of a job that may be; all tables are empty at first.
func made(t *testing.T, j api.Job) both {
	t.Helper()
	d, e := ideal.New(j)
	if e != api.OK || d == nil {
		t.Fatalf("New(%s): error %d", told(j), e)
	}
	b := both{d, wordsOf(j, nil), j}
	b.tells(t)
	return b
}

// loaded asks Load for what the words tell of these; what is handed in stays as it is.
func loaded(t *testing.T, j api.Job, l []api.State) (both, api.Errno) {
	t.Helper()
	before, was := copied(j), slices.Clone(l)
	w, want := load(j, l)
	d, e := ideal.Load(j, l)
	if e != want || (d == nil) != (want != api.OK) {
		t.Fatalf("Load(%s, %q): %v, error %d, want error %d", told(j), l, d, e, want)
	}
	if !job.Same(j, before) || !slices.Equal(l, was) {
		t.Fatalf("Load(%s, %q) made that of %s, %q", told(j), l, told(before), was)
	}
	if e != api.OK {
		return both{}, e
	}
	b := both{d, w, j}
	b.tells(t)
	return b, api.OK
}

// opened asks Load of states that may be loaded.
func opened(t *testing.T, j api.Job, l ...api.State) both {
	t.Helper()
	b, e := loaded(t, j, l)
	if e != api.OK {
		t.Fatalf("Load(%s, %q): error %d", told(j), l, e)
	}
	return b
}

// refused asks Load for an error.
func refused(t *testing.T, want api.Errno, j api.Job, l ...api.State) {
	t.Helper()
	if d, e := ideal.Load(j, l); d != nil || e != want {
		t.Errorf("Load(%s, %q) = %v, error %d, want error %d", told(j), l, d, e, want)
	}
	if _, e := loaded(t, j, l); e != want {
		t.Errorf("by the words error %d, want %d", e, want)
	}
}

// state is one of what is kept.
func state(uid string, k kept) api.State { return api.State{Uid: uid, Bytes: k.bytes()} }

// fullOf are as many keys as may be of these groups, each with a cell.
func fullOf(c api.Cell, groups ...int) kept {
	k := kept{}
	for _, of := range groups {
		for i := range int64(40) {
			k[int64(of)+8*(i-20)] = cell(c.Acc, slices.Clone(c.L)...)
		}
	}
	return k
}

func allGroups() []int { return []int{0, 1, 2, 3, 4, 5, 6, 7} }

// edges are numbers at which something may change.
func edges() []int64 {
	return []int64{0, 1, -1, 2, 3, 4, 5, 7, 8, -8, 1 << 32, 1 << 60, 1 << 61, 1 << 62, -1 << 62, least, least + 1, greatest, greatest - 1}
}

// dice throws numbers that hang on nothing but how often it was thrown.
type dice uint64

func (d *dice) below(n int) int {
	*d = *d*6364136223846793005 + 1442695040888963407
	return int(uint64(*d) >> 33 % uint64(n))
}

func (d *dice) word(l ...string) string { return l[d.below(len(l))] }

// number is a small one, an edge, or one of whatever length.
func (d *dice) number() int64 {
	switch d.below(6) {
	case 0:
		return edges()[d.below(len(edges()))]
	case 1:
		n := int64(d.below(1<<31))<<33 ^ int64(d.below(1<<31))<<2 ^ int64(d.below(4))
		return n >> d.below(64)
	}
	return int64(d.below(12)) - 4
}

// line is that of a node that reads this one.
func (d *dice) line(uid, in string) string {
	x := ""
	kind := d.word("map", "filter", "flat", "key", "reduce", "reduce", "window", "window")
	switch kind {
	case "map":
		x = d.word("val + 1", "val * 3 - key", "key", "-val", "val % 7", "val * val", "7", "if val < key then key else val")
	case "filter":
		x = d.word("val % 2 = 0", "key < val", "1 = 1", "1 = 2", "!(val < 0)", "key != 3", "val % 3 != 0 | key = 1")
	case "flat":
		x = d.word("val % 6", "3", "2", "key", "4", "5 - key", "9", "if val < 0 then 2 else 1", "0 - 1")
	case "key":
		x = d.word("key % 3", "val % 5", "val", "-key", "key + 8", "1", "key * 8", "key - val")
	case "reduce":
		x = d.word("acc + val", "acc * 10 + val", "acc + 1", "if val < acc then acc else val", "acc * 3 - key", "acc - val", "val")
	case "window":
		return uid + " window " + in + " " + strconv.Itoa([]int{1, 2, 2, 3, 4, 16}[d.below(6)])
	}
	return uid + " " + kind + " " + in + " : " + x
}

// grown is a job that may be.
func (d *dice) grown() api.Job {
	for {
		uids := []string{"n0"}
		open := slices.Clone(uids) // nobody reads these
		lines := []string{"par " + strconv.Itoa(1+d.below(4)), "n0 source"}
		for many := 1 + d.below(11); len(uids) < many || len(open) > 1; {
			uid, in := d.word("n", "ä", "x-")+strconv.Itoa(len(uids)), []string{open[d.below(len(open))]}
			if d.below(3) == 0 {
				in[0] = uids[d.below(len(uids))]
			}
			line := d.line(uid, in[0])
			if len(uids) > 1 && (d.below(4) == 0 || len(open) > 1 && d.below(2) == 0) {
				in = d.some(uids, open)
				line = uid + " union " + strings.Join(in, " ")
			}
			open = append(slices.DeleteFunc(open, func(u string) bool { return slices.Contains(in, u) }), uid)
			uids, lines = append(uids, uid), append(lines, line)
		}
		lines = append(lines, "end sink "+open[0])
		if j, _, e := script.Parse(strings.Join(lines, "\n")); e == api.OK {
			return j
		}
	}
}

// some are two or three nodes, in whatever order; those that nobody reads are likelier.
func (d *dice) some(uids, open []string) []string {
	var l []string
	for many := min(len(uids), 2+d.below(2)); len(l) < many; {
		u := uids[d.below(len(uids))]
		if d.below(2) == 0 {
			u = open[d.below(len(open))]
		}
		if !slices.Contains(l, u) {
			l = append(l, u)
		}
	}
	return l
}

// record is a key, mostly one of few, and a number.
func (d *dice) record() (key, val int64) {
	key = int64(d.below(7)) - 2
	if d.below(6) == 0 {
		key = d.number()
	}
	return key, d.number()
}

// keeps is what a node of that kind and N may keep, if luck will have it: mostly of few keys.
func (d *dice) keeps(n api.Node) kept {
	k := kept{}
	for range d.below(4) * d.below(6) {
		key, acc := d.record()
		if k.full(key) {
			continue
		}
		c := cell(acc)
		if n.Kind == 7 && n.N > 1 {
			c = cell(0, acc)
			for range d.below(n.N - 1) {
				c.L = append(c.L, d.number())
			}
		}
		if n.Kind == 6 || n.N > 1 {
			k[key] = c
		}
	}
	return k
}

// states are some of what a job's nodes may keep, in whatever order.
func (d *dice) states(j api.Job) []api.State {
	var l []api.State
	for _, n := range j.Nodes {
		if (n.Kind == 6 || n.Kind == 7) && d.below(4) > 0 {
			l = slices.Insert(l, d.below(len(l)+1), state(n.Uid, d.keeps(n)))
		}
	}
	return l
}
