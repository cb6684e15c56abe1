package flow_test

import (
	"encoding/binary"
	"math"
	"math/big"
	"slices"
	"strconv"
	"strings"
	"testing"

	"changeling/api"
	"changeling/eval"
	"changeling/flow"
	"changeling/ideal"
	"changeling/job"
	"changeling/script"
	"changeling/table"
)

const (
	least    = math.MinInt64
	greatest = math.MaxInt64
)

// kept is what a node keeps, by keys.
type kept map[int64]api.Cell

func cell(acc int64, l ...int64) api.Cell { return api.Cell{Acc: acc, L: l} }

// rest is the group of a key: the lowest bits of a number are its rest, also below 0.
func rest(key int64) int { return int(uint64(key) & 7) }

// full: whether there is no room for a key.
func (k kept) full(key int64) bool {
	many := 0
	for other := range k {
		if other == key {
			return false
		}
		if rest(other) == rest(key) {
			many++
		}
	}
	return many >= 40
}

// bytes are a table's, by the library's own zigzag numbers, which have the form of chapter 2.
func (k kept) bytes() string {
	var keys []int64
	for key := range k {
		keys = append(keys, key)
	}
	slices.SortFunc(keys, func(a, b int64) int {
		if rest(a) != rest(b) {
			return rest(a) - rest(b)
		}
		if a < b {
			return -1
		}
		return 1
	})
	b := binary.AppendVarint(nil, int64(len(k)))
	for _, key := range keys {
		b = binary.AppendVarint(b, key)
		b = binary.AppendVarint(b, k[key].Acc)
		b = binary.AppendVarint(b, int64(len(k[key].L)))
		for _, n := range k[key].L {
			b = binary.AppendVarint(b, n)
		}
	}
	return string(b)
}

// wrapped is the sum of these by 2^64, reckoned by numbers that never run over.
func wrapped(l ...int64) int64 {
	z := new(big.Int)
	for _, n := range l {
		z.Add(z, big.NewInt(n))
	}
	z.Mod(z, new(big.Int).Lsh(big.NewInt(1), 64))
	if z.Bit(63) == 1 {
		z.Sub(z, new(big.Int).Lsh(big.NewInt(1), 64))
	}
	return z.Int64()
}

// made is what the node n makes of a record, by the words of chapter 17, if it keeps this.
func (k kept) made(n api.Node, r api.Rec) []api.Rec {
	env := api.Env{Key: r.Key, Val: r.Val}
	if n.Kind == 6 {
		env.Acc = k[r.Key].Acc
	}
	x, _ := eval.Do(n.X, env)
	switch n.Kind {
	case 2:
		r.Val = x.N
	case 3:
		if !x.True {
			return nil
		}
	case 4:
		var l []api.Rec
		for i := int64(0); i < 4 && i < x.N; i++ {
			l = append(l, api.Rec{Pos: 8*r.Pos + i, Key: r.Key, Val: wrapped(r.Val, i)})
		}
		return l
	case 5:
		r.Key = x.N
	case 6:
		if k.full(r.Key) {
			return nil
		}
		k[r.Key] = cell(x.N)
		r.Val = x.N
	case 7:
		if k.full(r.Key) {
			return nil
		}
		l := append(slices.Clone(k[r.Key].L), r.Val)
		if len(l) < n.N {
			k[r.Key] = cell(0, l...)
			return nil
		}
		delete(k, r.Key)
		r.Val = wrapped(l...)
	}
	return []api.Rec{r}
}

// rising are the records by their places; no two have one place, where all come of one record.
func rising(l []api.Rec) []api.Rec {
	l = slices.Clone(l)
	slices.SortFunc(l, func(a, b api.Rec) int { return int(a.Pos - b.Pos) })
	for i := range l {
		if i > 0 && l[i].Pos == l[i-1].Pos {
			panic("two records at one place")
		}
	}
	return l
}

// place is a work: its node, and its sub.
type place struct{ node, sub int }

// road is a pipe.
type road struct{ from, to place }

// thing is what was fed.
type thing struct {
	seq, bar int64
	part     int
	key, val int64
}

// words are a flow as the chapter's words tell it.
type words struct {
	j     api.Job
	next  int64
	room  int
	works []place
	fed   []thing
	taken [2]int // how many of these the first works have taken
	on    map[road][]api.Msg
	keeps map[place]kept
}

// many is how many works a node has.
func many(j api.Job, at int) int {
	if at == 0 || at == len(j.Nodes)-1 {
		return 2
	}
	return j.Par
}

// home is the sub of the work of a node to which the records of a key go.
func home(j api.Job, at int, key int64) int {
	if at == len(j.Nodes)-1 {
		return rest(key) / 4
	}
	return rest(key) * j.Par / 8
}

// readers are the nodes that read a node.
func readers(j api.Job, at int) []int {
	var l []int
	for i, n := range j.Nodes {
		if slices.Contains(n.In, at) {
			l = append(l, i)
		}
	}
	return l
}

// wordsOf are those of a job that may be, with states that may be.
func wordsOf(j api.Job, l []api.State, first int64, room int) *words {
	w := &words{j: copied(j), next: first, room: room, on: map[road][]api.Msg{}, keeps: map[place]kept{}}
	for at, n := range w.j.Nodes {
		for sub := range many(j, at) {
			p := place{at, sub}
			w.works = append(w.works, p)
			if n.Kind == 6 || n.Kind == 7 {
				w.keeps[p] = kept{}
			}
		}
	}
	for _, s := range l {
		at := job.Find(j, s.Uid)
		all, _ := table.Take(s.Bytes)
		for _, key := range all.Keys() {
			w.keeps[place{at, home(j, at, key)}][key], _ = all.Get(key)
		}
	}
	return w
}

func (w *words) feed(part int, key, val int64) {
	w.fed = append(w.fed, thing{w.next, 0, part, key, val})
	w.next = wrapped(w.next, 1)
}

func (w *words) bar(n int64) { w.fed = append(w.fed, thing{seq: w.next, bar: n}) }

// ins are the pipes to a work, node by node; outs those from it.
func (w *words) ins(p place) [][]road {
	var l [][]road
	for _, in := range w.j.Nodes[p.node].In {
		var row []road
		for sub := range many(w.j, in) {
			row = append(row, road{place{in, sub}, p})
		}
		l = append(l, row)
	}
	return l
}

func (w *words) outs(p place) []road {
	var l []road
	for _, at := range readers(w.j, p.node) {
		for sub := range many(w.j, at) {
			l = append(l, road{p, place{at, sub}})
		}
	}
	return l
}

func (w *words) can(i int) bool {
	if i < 0 || i >= len(w.works) {
		return false
	}
	p := w.works[i]
	if p.node == 0 && w.taken[p.sub] == len(w.fed) {
		return false
	}
	for _, row := range w.ins(p) {
		for _, r := range row {
			if len(w.on[r]) == 0 {
				return false
			}
		}
	}
	for _, r := range w.outs(p) {
		if len(w.on[r]) == w.room {
			return false
		}
	}
	return true
}

// gets is what a work takes: the number and the bar of all messages, and what its node gets of them.
func (w *words) gets(p place) api.Msg {
	if p.node == 0 {
		x := w.fed[w.taken[p.sub]]
		w.taken[p.sub]++
		m := api.Msg{Seq: x.seq, Bar: x.bar}
		if x.bar == 0 && x.part == p.sub {
			m.L = []api.Rec{{Pos: 1, Key: x.key, Val: x.val}}
		}
		return m
	}
	var m api.Msg
	for b, row := range w.ins(p) {
		for i, r := range row {
			first := w.on[r][0]
			w.on[r] = w.on[r][1:]
			if (b > 0 || i > 0) && (first.Seq != m.Seq || first.Bar != m.Bar) {
				panic("two messages at once")
			}
			m.Seq, m.Bar = first.Seq, first.Bar
			for _, rec := range first.L {
				if w.j.Nodes[p.node].Kind == 8 {
					rec.Pos = 8*rec.Pos + int64(b)
				}
				m.L = append(m.L, rec)
			}
		}
	}
	m.L = rising(m.L)
	return m
}

func (w *words) turn(i int) (api.Work, bool) {
	if !w.can(i) {
		return api.Work{}, false
	}
	p := w.works[i]
	m := w.gets(p)
	did := api.Work{Kind: 1, Node: p.node, Sub: p.sub, Seq: m.Seq, Bar: m.Bar}
	if m.Bar != 0 {
		did.Kind = 2
		if k, is := w.keeps[p]; is {
			did.Bytes = k.bytes()
		}
	}
	var made []api.Rec
	for _, r := range m.L {
		made = append(made, w.keeps[p].made(w.j.Nodes[p.node], r)...)
	}
	made = rising(made)
	if p.node == len(w.j.Nodes)-1 {
		did.L = made
	}
	for _, r := range w.outs(p) {
		to := api.Msg{Seq: m.Seq, Bar: m.Bar}
		for _, rec := range made {
			if home(w.j, r.to.node, rec.Key) == r.to.sub {
				to.L = append(to.L, rec)
			}
		}
		w.on[r] = append(w.on[r], to)
	}
	return did, true
}

func (w *words) idle() bool {
	for _, l := range w.on {
		if len(l) > 0 {
			return false
		}
	}
	return w.taken == [2]int{len(w.fed), len(w.fed)}
}

// came is a bar: its number, that of the record behind it, and the ideal's states there.
type came struct {
	n, seq int64
	states []api.State
}

// both is a flow, the words that it is to go on as, and the ideal whose output it is to have.
type both struct {
	t     *testing.T
	f     *flow.Flow
	w     *words
	d     *ideal.Ideal
	first int64
	outs  [][]api.Rec       // the ideal's, of each input record
	bars  []came            // the bars that were fed
	took  [2]int            // how many records each work of the last node has taken
	told  map[place]int     // how many bars a work has told
	joint map[[2]int]joined // by nodes, and by bars: the tables that were told
}

// joined is tables, and how many were joined.
type joined struct {
	all  *table.Table
	many int
}

// made asks New of a job and states that may be.
func made(t *testing.T, j api.Job, l []api.State, first int64, room int) *both {
	t.Helper()
	before, was := copied(j), slices.Clone(l)
	d, e := ideal.Load(j, l)
	if e != api.OK {
		t.Fatalf("ideal.Load(%s, %q): error %d", told(j), l, e)
	}
	f, e := flow.New(j, l, first, room)
	if e != api.OK || f == nil {
		t.Fatalf("New(%s, %q, %d, %d): error %d", told(j), l, first, room, e)
	}
	if !job.Same(j, before) || !slices.Equal(l, was) {
		t.Fatalf("New(%s, %q) made that of %s, %q", told(j), l, told(before), was)
	}
	b := &both{t: t, f: f, w: wordsOf(j, l, first, room), d: d, first: first, told: map[place]int{}, joint: map[[2]int]joined{}}
	b.looks()
	return b
}

// refused asks New for an error.
func refused(t *testing.T, want api.Errno, j api.Job, l []api.State, first int64, room int) {
	t.Helper()
	if f, e := flow.New(j, l, first, room); f != nil || e != want {
		t.Errorf("New(%s, %q, %d, %d) = %v, error %d, want error %d", told(j), l, first, room, f, e, want)
	}
}

// looks asks all that may be seen without a change, and that some work can go on, unless the flow is idle.
func (b *both) looks() {
	b.t.Helper()
	if got := b.f.Works(); got != len(b.w.works) {
		b.t.Fatalf("%s\nWorks() = %d, want %d", told(b.w.j), got, len(b.w.works))
	}
	some := false
	for i := -2; i < len(b.w.works)+3; i++ {
		got, want := b.f.Can(i), b.w.can(i)
		if got != want {
			b.t.Fatalf("%s\nCan(%d) = %v, want %v", told(b.w.j), i, got, want)
		}
		some = some || got
	}
	if got, want := b.f.Idle(), b.w.idle(); got != want || some == got {
		b.t.Fatalf("%s\nIdle() = %v, want %v; some can go on: %v", told(b.w.j), got, want, some)
	}
	if got, want := b.f.Next(), b.w.next; got != want {
		b.t.Fatalf("%s\nNext() = %d, want %d", told(b.w.j), got, want)
	}
}

// feed asks Feed of a part that is one.
func (b *both) feed(part int, key, val int64) {
	b.t.Helper()
	if e := b.f.Feed(part, key, val); e != api.OK {
		b.t.Fatalf("Feed(%d, %d, %d): error %d", part, key, val, e)
	}
	b.w.feed(part, key, val)
	b.outs = append(b.outs, b.d.Feed(key, val))
	b.looks()
}

// bar asks Bar of a number above 0.
func (b *both) bar(n int64) {
	b.t.Helper()
	if e := b.f.Bar(n); e != api.OK {
		b.t.Fatalf("Bar(%d): error %d", n, e)
	}
	b.w.bar(n)
	b.bars = append(b.bars, came{n, b.w.next, b.d.States()})
	b.looks()
}

// turn asks Go of whatever work for what the words tell, and holds it to the ideal.
func (b *both) turn(i int) (api.Work, bool) {
	b.t.Helper()
	want, is := b.w.turn(i)
	got, did := b.f.Go(i)
	if did != is || !sameWork(got, want) {
		b.t.Fatalf("%s\nGo(%d) = %+v, %v, want %+v, %v", told(b.w.j), i, got, did, want, is)
	}
	if did {
		b.held(got)
	}
	b.looks()
	return got, did
}

// held holds what a work did to the ideal.
func (b *both) held(did api.Work) {
	b.t.Helper()
	if did.Bar != 0 {
		b.heldBar(did)
		return
	}
	if did.Node != len(b.w.j.Nodes)-1 {
		return
	}
	at := b.took[did.Sub]
	b.took[did.Sub]++
	var want []api.Rec
	for _, r := range b.outs[at] {
		if home(b.w.j, did.Node, r.Key) == did.Sub {
			want = append(want, r)
		}
	}
	if !slices.Equal(did.L, want) || did.Seq != wrapped(b.first, int64(at)) {
		b.t.Fatalf("%s\nof the input record %d in part %d: %+v, by the ideal %v", told(b.w.j), at, did.Sub, did, want)
	}
}

// heldBar: the bars go by in their order; when the last work of a node has told its table, they are the ideal's state.
func (b *both) heldBar(did api.Work) {
	b.t.Helper()
	p := place{did.Node, did.Sub}
	at := b.told[p]
	b.told[p]++
	if x := b.bars[at]; did.Bar != x.n || did.Seq != x.seq {
		b.t.Fatalf("%s\nthe bar %d is %+v, want %+v", told(b.w.j), at, did, x)
	}
	n := b.w.j.Nodes[did.Node]
	if n.Kind != 6 && n.Kind != 7 {
		return
	}
	r := b.joint[[2]int{did.Node, at}]
	if r.all == nil {
		r.all = table.New()
	}
	u, e := table.Take(did.Bytes)
	if e != api.OK || r.all.Join(u) != api.OK {
		b.t.Fatalf("%s\nthe table of %+v can't be joined", told(b.w.j), did)
	}
	r.many++
	b.joint[[2]int{did.Node, at}] = r
	if r.many < b.w.j.Par {
		return
	}
	of := slices.IndexFunc(b.bars[at].states, func(s api.State) bool { return s.Uid == n.Uid })
	if want := b.bars[at].states[of].Bytes; r.all.Bytes() != want {
		b.t.Fatalf("%s\nat the bar %d %s keeps %q, by the ideal %q", told(b.w.j), at, n.Uid, r.all.Bytes(), want)
	}
}

// through goes on until the flow is idle, and asks that all came out.
func (b *both) through(next func() int) {
	b.t.Helper()
	for many := 0; !b.f.Idle(); many++ {
		if many > 1<<20 {
			b.t.Fatalf("%s\nis never idle", told(b.w.j))
		}
		b.turn(next())
	}
	for sub, many := range b.took {
		if many != len(b.outs) {
			b.t.Fatalf("%s\npart %d took %d of %d", told(b.w.j), sub, many, len(b.outs))
		}
	}
	for _, p := range b.w.works {
		if b.told[p] != len(b.bars) {
			b.t.Fatalf("%s\n%v told %d of %d bars", told(b.w.j), p, b.told[p], len(b.bars))
		}
	}
}

// byTurns picks one work behind the other, all over again.
func (b *both) byTurns() func() int {
	i := -1
	return func() int {
		i = (i + 1) % len(b.w.works)
		return i
	}
}

// lastFirst picks the last work that can go on; firstFirst the first one.
func (b *both) lastFirst() func() int {
	return func() int {
		for i := len(b.w.works) - 1; i >= 0; i-- {
			if b.f.Can(i) {
				return i
			}
		}
		return -1
	}
}

func (b *both) firstFirst() func() int {
	return func() int {
		for i := range b.w.works {
			if b.f.Can(i) {
				return i
			}
		}
		return -1
	}
}

// stubborn picks one work for as long as it can go on, and then the next one.
func (b *both) stubborn(step int) func() int {
	i := 0
	return func() int {
		for range b.w.works {
			if b.f.Can(i) {
				return i
			}
			i = (i + step) % len(b.w.works)
		}
		return i
	}
}

// byRow picks by a row of numbers, all over again, each time one further on; beyond the last one there is no work.
func (b *both) byRow(l ...int) func() int {
	i := -1
	return func() int {
		i++
		return (l[i%len(l)] + i/len(l)) % (len(b.w.works) + 1)
	}
}

// thrown picks by dice, also what is no work.
func (b *both) thrown(d *dice) func() int {
	return func() int {
		if d.below(20) == 0 {
			return []int{-1, len(b.w.works), least, greatest, -len(b.w.works), len(b.w.works) + 1}[d.below(6)]
		}
		return d.below(len(b.w.works))
	}
}

// picks are all these ways of picking.
func (b *both) picks(d *dice) []func() int {
	return []func() int{b.byTurns(), b.lastFirst(), b.firstFirst(), b.stubborn(1), b.stubborn(len(b.w.works) - 1), b.byRow(3, 1, 4, 1, 5, 9, 2, 6, 5, 3, 5), b.thrown(d)}
}

// sameWork: none and an empty list are alike.
func sameWork(a, b api.Work) bool {
	return a.Kind == b.Kind && a.Node == b.Node && a.Sub == b.Sub && a.Seq == b.Seq && a.Bar == b.Bar && a.Bytes == b.Bytes && slices.Equal(a.L, b.L)
}

func copiedExpr(x api.Expr) api.Expr {
	y := api.Expr{Op: x.Op, N: x.N}
	for _, a := range x.Args {
		y.Args = append(y.Args, copiedExpr(a))
	}
	return y
}

// copied shares nothing with j.
func copied(j api.Job) api.Job {
	k := api.Job{Par: j.Par}
	for _, n := range j.Nodes {
		n.In, n.X = slices.Clone(n.In), copiedExpr(n.X)
		k.Nodes = append(k.Nodes, n)
	}
	return k
}

// jobOf is the one of a text's lines, with that Par.
func jobOf(par int, lines ...string) api.Job {
	j, at, e := script.Parse("par " + strconv.Itoa(par) + "\n" + strings.Join(lines, "\n"))
	if e != api.OK {
		panic("error " + strconv.Itoa(int(e)) + " in line " + strconv.Itoa(at) + " of " + strings.Join(lines, "; "))
	}
	return j
}

// told tells a job so that a failed test shows it.
func told(j api.Job) string {
	s, e := script.Text(j)
	if e != api.OK {
		return "a job that may not be"
	}
	return strings.ReplaceAll(s, "\n", "; ")
}

// state is one of what is kept.
func state(uid string, k kept) api.State { return api.State{Uid: uid, Bytes: k.bytes()} }

// edges are numbers at which something may change.
func edges() []int64 {
	return []int64{0, 1, -1, 2, 3, 4, 5, 7, 8, -8, 1 << 32, 1 << 60, 1 << 61, 1 << 62, -1 << 62, least, least + 1, greatest, greatest - 1}
}

// dice throws numbers that hang on nothing but how often it was thrown.
type dice uint64

func (d *dice) below(n int) int {
	*d = *d*6364136223846793005 + 1442695040888963407
	return int(uint64(*d) >> 33 % uint64(n))
}

func (d *dice) word(l ...string) string { return l[d.below(len(l))] }

// number is a small one, an edge, or one of whatever length.
func (d *dice) number() int64 {
	switch d.below(6) {
	case 0:
		return edges()[d.below(len(edges()))]
	case 1:
		n := int64(d.below(1<<31))<<33 ^ int64(d.below(1<<31))<<2 ^ int64(d.below(4))
		return n >> d.below(64)
	}
	return int64(d.below(12)) - 4
}

// line is that of a node that reads this one.
func (d *dice) line(uid, in string) string {
	x := ""
	kind := d.word("map", "filter", "flat", "key", "key", "reduce", "reduce", "window", "window")
	switch kind {
	case "map":
		x = d.word("val + 1", "val * 3 - key", "key", "-val", "val % 7", "val * val", "7", "if val < key then key else val")
	case "filter":
		x = d.word("val % 2 = 0", "key < val", "1 = 1", "!(val < 0)", "key != 3", "val % 3 != 0 | key = 1")
	case "flat":
		x = d.word("val % 6", "3", "2", "key", "4", "5 - key", "9", "if val < 0 then 2 else 1")
	case "key":
		x = d.word("key % 3", "val % 5", "val", "-key", "key + 8", "1", "key * 8", "key - val")
	case "reduce":
		x = d.word("acc + val", "acc * 10 + val", "acc + 1", "if val < acc then acc else val", "acc * 3 - key", "acc - val", "val")
	case "window":
		return uid + " window " + in + " " + strconv.Itoa([]int{1, 2, 2, 3, 4, 16}[d.below(6)])
	}
	return uid + " " + kind + " " + in + " : " + x
}

// grown is a job that may be.
func (d *dice) grown() api.Job {
	for {
		uids := []string{"n0"}
		open := slices.Clone(uids) // nobody reads these
		lines := []string{"par " + strconv.Itoa(1+d.below(4)), "n0 source"}
		for many := 1 + d.below(11); len(uids) < many || len(open) > 1; {
			uid, in := d.word("n", "ä", "x-")+strconv.Itoa(len(uids)), []string{open[d.below(len(open))]}
			if d.below(3) == 0 {
				in[0] = uids[d.below(len(uids))]
			}
			line := d.line(uid, in[0])
			if len(uids) > 1 && (d.below(4) == 0 || len(open) > 1 && d.below(2) == 0) {
				in = d.some(uids, open)
				line = uid + " union " + strings.Join(in, " ")
			}
			open = append(slices.DeleteFunc(open, func(u string) bool { return slices.Contains(in, u) }), uid)
			uids, lines = append(uids, uid), append(lines, line)
		}
		lines = append(lines, "end sink "+open[0])
		if j, _, e := script.Parse(strings.Join(lines, "\n")); e == api.OK {
			return j
		}
	}
}

// some are two or three nodes, in whatever order; those that nobody reads are likelier.
func (d *dice) some(uids, open []string) []string {
	var l []string
	for many := min(len(uids), 2+d.below(2)); len(l) < many; {
		u := uids[d.below(len(uids))]
		if d.below(2) == 0 {
			u = open[d.below(len(open))]
		}
		if !slices.Contains(l, u) {
			l = append(l, u)
		}
	}
	return l
}

// record is a key, mostly one of few, and a number.
func (d *dice) record() (key, val int64) {
	key = int64(d.below(17)) - 4
	if d.below(6) == 0 {
		key = d.number()
	}
	return key, d.number()
}

// keeps is what a node of that kind and N may keep, if luck will have it: mostly of few keys.
func (d *dice) keeps(n api.Node) kept {
	k := kept{}
	for range d.below(4) * d.below(6) {
		key, acc := d.record()
		if k.full(key) {
			continue
		}
		c := cell(acc)
		if n.Kind == 7 && n.N > 1 {
			c = cell(0, acc)
			for range d.below(n.N - 1) {
				c.L = append(c.L, d.number())
			}
		}
		if n.Kind == 6 || n.N > 1 {
			k[key] = c
		}
	}
	return k
}

// states are some of what a job's nodes may keep, in whatever order.
func (d *dice) states(j api.Job) []api.State {
	var l []api.State
	for _, n := range j.Nodes {
		if (n.Kind == 6 || n.Kind == 7) && d.below(4) > 0 {
			l = slices.Insert(l, d.below(len(l)+1), state(n.Uid, d.keeps(n)))
		}
	}
	return l
}
