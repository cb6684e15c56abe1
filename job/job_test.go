package job_test

import (
	"math"
	"slices"
	"strconv"
	"strings"
	"testing"

	"changeling/api"
	"changeling/job"
)

var (
	key = api.Expr{Op: 2}
	val = api.Expr{Op: 3}
	acc = api.Expr{Op: 4}
)

func num(n int64) api.Expr { return api.Expr{Op: 1, N: n} }

func of(op uint8, args ...api.Expr) api.Expr { return api.Expr{Op: op, Args: args} }

// full is an expression of TyInt with just so many parts, from 1 on.
func full(parts int) api.Expr {
	switch parts {
	case 1:
		return val
	case 2:
		return of(5, key)
	}
	left := (parts - 1) / 2
	return of(9, full(left), full(parts-1-left))
}

// node has what its kind asks for, beside these.
func node(kind uint8, uid string, in ...int) api.Node {
	n := api.Node{Uid: uid, Kind: kind, In: in}
	switch kind {
	case 2, 4, 5:
		n.X = of(7, val, num(1))
	case 3:
		n.X = of(12, val, key)
	case 6:
		n.X = of(7, acc, val)
	case 7:
		n.N = 3
	}
	return n
}

func source(uid string) api.Node           { return node(1, uid) }
func mapped(uid string, in int) api.Node   { return node(2, uid, in) }
func flat(uid string, in int) api.Node     { return node(4, uid, in) }
func sink(uid string, in int) api.Node     { return node(9, uid, in) }
func union(uid string, in ...int) api.Node { return node(8, uid, in...) }

func jobOf(l ...api.Node) api.Job { return api.Job{Par: 1, Nodes: l} }

// with is j with another node at that place; it shares the other nodes' parts with j.
func with(j api.Job, at int, n api.Node) api.Job {
	j.Nodes = slices.Clone(j.Nodes)
	j.Nodes[at] = n
	return j
}

// line is a job of so many nodes, each of which but the first reads the one ahead.
func line(many int) api.Job {
	j := api.Job{Par: 2}
	for at := range many {
		kind := uint8(2 + at%2)
		if at == many-1 {
			kind = 9
		}
		j.Nodes = append(j.Nodes, node(kind, "n"+strconv.Itoa(at), at-1))
	}
	if many > 0 {
		j.Nodes[0] = source("n0")
	}
	return j
}

// shown tells a job, whatever it is like, so that a failed test shows it.
func shown(j api.Job) string {
	s := "par " + strconv.Itoa(j.Par)
	for _, n := range j.Nodes {
		s += "; " + strconv.Quote(n.Uid) + " kind " + strconv.Itoa(int(n.Kind)) + " of"
		for _, i := range n.In {
			s += " " + strconv.Itoa(i)
		}
		s += " N " + strconv.Itoa(n.N) + " X " + strconv.Itoa(int(n.X.Op))
	}
	return s
}

// asked asks May.
func asked(t *testing.T, j api.Job, at int, e api.Errno) {
	t.Helper()
	if a, f := job.May(j); a != at || f != e {
		t.Errorf("May(%.600s) = %d, error %d, want %d, error %d", shown(j), a, f, at, e)
	}
}

// read asks Readers.
func read(t *testing.T, j api.Job, at int, want ...int) {
	t.Helper()
	if l := job.Readers(j, at); !slices.Equal(l, want) {
		t.Errorf("Readers(%.600s; %d) = %d, want %d", shown(j), at, l, want)
	}
}

// found asks Find.
func found(t *testing.T, j api.Job, uid string, want int) {
	t.Helper()
	if at := job.Find(j, uid); at != want {
		t.Errorf("Find(%.600s; %q) = %d, want %d", shown(j), uid, at, want)
	}
}

// TestExamples: the chapter's.
func TestExamples(t *testing.T) {
	s, m, end := source("s"), api.Node{Uid: "m", Kind: 2, In: []int{0}, X: of(7, val, num(1))}, sink("t", 1)
	j := api.Job{Par: 2, Nodes: []api.Node{s, m, end}}
	asked(t, j, 0, 0)
	read(t, j, 0, 1)
	found(t, j, "t", 2)
	asked(t, jobOf(s, sink("s", 0)), 1, api.ErrUid)
	asked(t, jobOf(s, m, sink("t", 0)), 1, api.ErrShape)
}

// TestConstants: the kinds, the errors and the limits by the numbers that the document says.
func TestConstants(t *testing.T) {
	asked(t, api.Job{}, 0, 2)
	asked(t, jobOf(source("s"), sink("t", 1)), 1, 120)
	asked(t, jobOf(source("s"), sink("s", 0)), 1, 121)
	asked(t, jobOf(source("s"), mapped("t", 0)), 1, 122)
	if got := [...]int{api.MaxNodes, api.MaxPar, api.MaxIns, api.MaxFlats, api.MaxFlat, api.MaxWindow, api.MaxParts, api.MaxWays}; got != [...]int{12, 4, 3, 2, 4, 16, 1000, 64} {
		t.Error(got)
	}
}

// TestPar: P12.1: Par at its bounds.
func TestPar(t *testing.T) {
	for _, par := range []int{math.MinInt, -4, -1, 0, 5, 6, 256, 257, 1 << 32, 1<<32 + 1, math.MaxInt} {
		j := line(3)
		j.Par = par
		asked(t, j, 0, api.ErrArg)
	}
	for par := 1; par <= 4; par++ {
		j := line(3)
		j.Par = par
		asked(t, j, 0, 0)
	}
}

// TestNodes: P12.1: how many nodes.
func TestNodes(t *testing.T) {
	for many := range 40 {
		if many < 2 || many > 12 {
			asked(t, line(many), 0, api.ErrArg)
		} else {
			asked(t, line(many), 0, 0)
		}
	}
	asked(t, api.Job{Par: 1, Nodes: []api.Node{}}, 0, api.ErrArg)
	asked(t, jobOf(source("s")), 0, api.ErrArg)
	asked(t, jobOf(sink("t", 0)), 0, api.ErrArg)
	asked(t, api.Job{Par: 1, Nodes: make([]api.Node, 1<<16)}, 0, api.ErrArg)
}

// TestParts: P12.1: how many parts: each node's X is one, also where it is the zero expression; what stands at two places counts twice.
func TestParts(t *testing.T) {
	for many := 3; many <= 12; many++ {
		for at := 1; at < many-1; at += 2 {
			j := line(many)
			rest := 0
			for i, n := range j.Nodes {
				if i != at {
					rest += parts(n.X)
				}
			}
			for _, total := range []int{998, 999, 1000, 1001, 1002, 1003, 2000, 5000} {
				n := mapped("x", at-1)
				n.X = full(total - rest)
				if parts(n.X) != total-rest {
					t.Fatal(parts(n.X), total, rest)
				}
				k := with(j, at, n)
				if total <= 1000 {
					asked(t, k, 0, 0)
				} else {
					asked(t, k, 0, api.ErrArg)
				}
			}
		}
	}
	x := full(249) // the same one at four nodes
	j := line(6)
	for at := 1; at <= 4; at++ {
		j.Nodes[at] = mapped("x"+strconv.Itoa(at), at-1)
		j.Nodes[at].X = x
	}
	asked(t, j, 0, 0) // 998
	j.Nodes[1].X = full(251)
	asked(t, j, 0, 0)
	j.Nodes[4].X = full(250)
	asked(t, j, 0, api.ErrArg)
	half := full(498) // the same one at two places of one node
	k := line(3)
	k.Nodes[1].X, k.Nodes[1].Kind = of(7, half, half), 2
	asked(t, k, 0, 0) // 999
	k.Nodes[1].X = of(5, of(7, half, half))
	asked(t, k, 0, 0)
	k.Nodes[1].X = of(5, of(5, of(7, half, half)))
	asked(t, k, 0, api.ErrArg)
}

// parts is how many parts an expression has.
func parts(x api.Expr) int {
	many := 1
	for _, a := range x.Args {
		many += parts(a)
	}
	return many
}

// TestPartsOfZero: P12.1: also the parts of an X that must not be there, and of one that may not be, count.
func TestPartsOfZero(t *testing.T) {
	for _, at := range []int{0, 2, 3} { // the source, a union, the sink
		j := jobOf(source("s"), mapped("m", 0), union("u", 0, 1), sink("t", 2))
		rest := 2 + parts(j.Nodes[1].X)
		j.Nodes[at].X = full(1000 - rest)
		asked(t, j, at, api.ErrNode)
		j.Nodes[at].X = full(1001 - rest)
		asked(t, j, 0, api.ErrArg)
		j.Nodes[at].X = of(77, slices.Repeat([]api.Expr{key}, 999-rest)...)
		asked(t, j, at, api.ErrNode)
		j.Nodes[at].X = of(77, slices.Repeat([]api.Expr{key}, 1000-rest)...)
		asked(t, j, 0, api.ErrArg)
	}
	j := jobOf(source("s"), mapped("m", 0), sink("t", 1))
	j.Nodes[1].X = key
	for range 997 {
		j.Nodes[1].X = of(5, j.Nodes[1].X)
	}
	asked(t, j, 1, api.ErrNode)
	j.Nodes[1].X = of(5, j.Nodes[1].X)
	asked(t, j, 0, api.ErrArg)
}

// TestKinds: P12.1: each Kind with each thing that a kind may ask for, by the chapter's table.
func TestKinds(t *testing.T) {
	zeros := []api.Expr{{}, {Args: []api.Expr{}}}
	ints := []api.Expr{key, val, num(0), num(math.MaxInt64), of(5, key), of(7, key, val), of(18, of(12, key, val), key, val)}
	bools := []api.Expr{of(12, key, val), of(6, of(14, key, val)), of(15, of(12, key, val), of(13, key, val)), of(18, of(12, key, val), of(12, key, val), of(13, key, val))}
	accInts := []api.Expr{acc, of(7, acc, val), of(5, of(5, acc)), of(18, of(12, key, acc), key, val), of(18, of(12, key, val), key, acc)}
	accBools := []api.Expr{of(12, acc, val), of(14, key, acc), of(6, of(14, acc, acc))}
	none := []api.Expr{{N: 1}, {N: -1}, {Args: []api.Expr{{}}}, {Args: []api.Expr{key}}, of(1, key), num(-1), {Op: 2, N: 1}, of(5), of(7, key), of(6, key), of(7, key, of(12, key, val)), of(18, key, key, key), {Op: 19}, {Op: 255}, of(16, acc, acc), within(key, 16)}
	rows := []struct {
		kinds       []uint8
		may         [][]api.Expr
		few, many   int
		least, most int
	}{
		{[]uint8{1}, [][]api.Expr{zeros}, 0, 0, 0, 0},
		{[]uint8{8}, [][]api.Expr{zeros}, 2, 3, 0, 0},
		{[]uint8{9}, [][]api.Expr{zeros}, 1, 1, 0, 0},
		{[]uint8{2, 4, 5}, [][]api.Expr{ints}, 1, 1, 0, 0},
		{[]uint8{3}, [][]api.Expr{bools}, 1, 1, 0, 0},
		{[]uint8{6}, [][]api.Expr{ints, accInts}, 1, 1, 0, 0},
		{[]uint8{7}, [][]api.Expr{zeros}, 1, 1, 1, 16},
		{[]uint8{0, 10, 11, 128, 254, 255}, nil, 0, -1, 0, -1},
	}
	for _, r := range rows {
		may := func(x api.Expr) bool {
			return slices.ContainsFunc(slices.Concat(r.may...), func(y api.Expr) bool { return alike(x, y) })
		}
		for _, kind := range r.kinds {
			for _, x := range slices.Concat(zeros, ints, bools, accInts, accBools, none) {
				for _, in := range [][]int{nil, {}, {2}, {0, 3}, {3, 1, 0}, {0, 1, 2, 3}, {3, 2, 1, 0, 4}} {
					for _, n := range []int{math.MinInt, -1, 0, 1, 2, 8, 15, 16, 17, 18, 256, 257, 1 << 32, 1<<32 + 1, math.MaxInt} {
						j := jobOf(source("s"), mapped("a", 0), mapped("b", 1), mapped("c", 2), api.Node{Uid: "x", Kind: kind, In: in, X: x, N: n}, sink("t", 4))
						ok := may(x) && r.few <= len(in) && len(in) <= r.many && r.least <= n && n <= r.most
						if at, e := job.May(j); (e == api.ErrNode) != !ok || e == api.ErrNode && at != 4 {
							t.Fatalf("%s: %d, error %d; may it be: %v", shown(j), at, e, ok)
						}
					}
				}
			}
		}
	}
}

// within is x so many levels beneath others.
func within(x api.Expr, levels int) api.Expr {
	for range levels {
		x = of(5, x)
	}
	return x
}

// TestDeep: P12.1: an X that is just MaxDeep deep, and one more.
func TestDeep(t *testing.T) {
	for _, kind := range []uint8{2, 4, 5, 6} {
		j := line(3)
		j.Nodes[1] = node(kind, "x", 0)
		j.Nodes[1].X = within(val, 15)
		asked(t, j, 0, 0)
		j.Nodes[1].X = within(val, 16)
		asked(t, j, 1, api.ErrNode)
	}
	j := line(3)
	j.Nodes[1] = node(3, "x", 0)
	j.Nodes[1].X = of(12, key, within(val, 14))
	asked(t, j, 0, 0)
	j.Nodes[1].X = of(12, key, within(val, 15))
	asked(t, j, 1, api.ErrNode)
}

// TestIn: P12.1: what stands in In: ahead, and no two the same.
func TestIn(t *testing.T) {
	base := jobOf(source("s"), mapped("a", 0), mapped("b", 1), mapped("c", 2), mapped("x", 3), sink("t", 4))
	for kind := uint8(2); kind <= 9; kind++ {
		for _, i := range []int{math.MinInt, -1 << 32, -256, -2, -1, 4, 5, 6, 11, 12, 256, 1 << 32, 1<<32 + 1, math.MaxInt} {
			if kind == 8 {
				for _, in := range [][]int{{i, 0}, {0, i}, {i, 1, 2}, {1, i, 2}, {1, 2, i}, {i, i}} {
					asked(t, with(base, 4, node(kind, "x", in...)), 4, api.ErrNode)
				}
			} else {
				asked(t, with(base, 4, node(kind, "x", i)), 4, api.ErrNode)
			}
		}
		for i := range 4 {
			if kind == 8 {
				for _, in := range [][]int{{i, i}, {i, i, (i + 1) % 4}, {i, (i + 1) % 4, i}, {(i + 1) % 4, i, i}, {i, i, i}} {
					asked(t, with(base, 4, node(kind, "x", in...)), 4, api.ErrNode)
				}
			} else {
				asked(t, with(base, 4, node(kind, "x", i, i)), 4, api.ErrNode)
			}
		}
	}
	for at := 1; at <= 10; at++ { // each place, of which the one ahead is the last that may be read
		j := line(12)
		for _, i := range []int{at - 1, at, at + 1, -1} {
			k := with(j, at, mapped("x", i))
			if i == at-1 {
				asked(t, k, 0, 0)
			} else {
				asked(t, k, at, api.ErrNode)
			}
		}
	}
	asked(t, with(line(12), 11, sink("x", 11)), 11, api.ErrNode)
	asked(t, jobOf(source("s"), mapped("a", 0), mapped("b", 1), union("u", 2, 1, 0), sink("t", 3)), 0, 0)
	asked(t, jobOf(source("s"), mapped("a", 0), mapped("b", 0), union("u", 1, 2), sink("t", 3)), 0, 0)
	asked(t, jobOf(source("s"), mapped("a", 0), mapped("b", 0), union("u", 2, 1), sink("t", 3)), 0, 0)
	asked(t, jobOf(source("s"), union("u", 0, 0), sink("t", 1)), 1, api.ErrNode)
	asked(t, jobOf(source("s"), union("u", 0), sink("t", 1)), 1, api.ErrNode)
	asked(t, jobOf(source("s"), mapped("a", 0), union("u", 0, 1, 0), sink("t", 2)), 2, api.ErrNode)
}

// TestUids: P12.1: names that are none, and such as two nodes have.
func TestUids(t *testing.T) {
	none := []string{"", " ", "7a", "-a", "a b", "a_b", "a:", "a\n", "\xff", "a\xff", "\ufffd", "a\x00", " a", "a ", "\u00bf", strings.Repeat("a", 25), strings.Repeat("ö", 25), strings.Repeat("a", 1<<20)}
	names := []string{"a", "Z", "ä", "räume-7", "a-", "s7", strings.Repeat("a", 24), strings.Repeat("ö", 24), "source", "par"}
	for at := range 4 {
		for _, uid := range none {
			j := line(4)
			j.Nodes[at].Uid = uid
			asked(t, j, at, api.ErrNode)
			j.Nodes[3].Uid = uid
			asked(t, j, at, api.ErrNode)
		}
		for _, uid := range names {
			j := line(4)
			j.Nodes[at].Uid = uid
			asked(t, j, 0, 0)
		}
	}
	for a := range 12 {
		for b := a + 1; b < 12; b++ {
			j := line(12)
			j.Nodes[b].Uid = j.Nodes[a].Uid
			asked(t, j, b, api.ErrUid)
			if b < 11 {
				j.Nodes[11].Uid = j.Nodes[a].Uid
				asked(t, j, b, api.ErrUid)
			}
		}
	}
	j := line(3)
	j.Nodes[0].Uid, j.Nodes[1].Uid = "a", "A"
	asked(t, j, 0, 0)
	j.Nodes[1].Uid = strings.Repeat("a", 1)
	asked(t, j, 1, api.ErrUid)
}

// TestEnds: P12.1: a first or last node that isn't what it must be, and one in the midst that is.
func TestEnds(t *testing.T) {
	for kind := uint8(2); kind <= 9; kind++ {
		asked(t, with(line(4), 0, node(kind, "x")), 0, api.ErrNode)
		asked(t, with(line(4), 0, node(kind, "x", 0)), 0, api.ErrNode)
		asked(t, with(line(4), 0, node(kind, "x", 1)), 0, api.ErrNode)
	}
	for kind := uint8(2); kind <= 7; kind++ {
		asked(t, with(line(4), 3, node(kind, "x", 2)), 3, api.ErrShape)
	}
	asked(t, with(line(4), 3, union("x", 2, 1)), 3, api.ErrShape)
	for many := 3; many <= 12; many++ {
		for at := 1; at < many-1; at++ {
			asked(t, with(line(many), at, sink("x", at-1)), at, api.ErrShape)
			asked(t, with(line(many), at, source("x")), at-1, api.ErrShape) // the one ahead isn't read any more
		}
	}
	// a source that reads none, though the one ahead of it is read by another
	asked(t, jobOf(source("s"), source("x"), union("u", 0, 1), sink("t", 2)), 1, api.ErrShape)
	asked(t, jobOf(source("s"), mapped("m", 0), source("x"), union("u", 1, 2), sink("t", 3)), 2, api.ErrShape)
	asked(t, jobOf(source("s"), source("x")), 0, api.ErrShape)
	asked(t, jobOf(source("s"), mapped("m", 0), source("x")), 1, api.ErrShape)
	asked(t, jobOf(source("s"), sink("x", 0), sink("t", 0)), 1, api.ErrShape)
	asked(t, jobOf(source("s"), sink("x", 0), sink("t", 1)), 1, api.ErrShape)
	asked(t, jobOf(source("s"), sink("t", 0)), 0, 0)
}

// star is a job whose first node is read by so many others: some maps, put together by unions.
func star(many int) api.Job {
	j := jobOf(source("s"))
	for i := range many {
		j.Nodes = append(j.Nodes, mapped("m"+strconv.Itoa(i), 0))
	}
	whole := 1
	for i := 2; i <= many; i++ {
		j.Nodes = append(j.Nodes, union("u"+strconv.Itoa(i), whole, i))
		whole = len(j.Nodes) - 1
	}
	j.Nodes = append(j.Nodes, sink("t", whole))
	return j
}

// TestReadBy: P12.1: nodes that no other one reads, or more than MaxIns others do.
func TestReadBy(t *testing.T) {
	for many := 1; many <= 5; many++ {
		if many <= 3 {
			asked(t, star(many), 0, 0)
		} else {
			asked(t, star(many), 0, api.ErrShape)
		}
	}
	for many := 3; many <= 12; many++ {
		for at := 2; at < many; at++ { // the one ahead of at is left out
			j := line(many)
			j.Nodes[at].In = []int{at - 2}
			asked(t, j, at-1, api.ErrShape)
		}
	}
	// the fourth one that reads it is the last node; or a union
	asked(t, jobOf(source("s"), mapped("a", 0), mapped("b", 0), union("u", 0, 1, 2), sink("t", 3)), 0, 0)
	asked(t, jobOf(source("s"), mapped("a", 0), mapped("b", 0), union("u", 0, 1, 2), union("v", 0, 3), sink("t", 4)), 0, api.ErrShape)
	asked(t, jobOf(source("s"), mapped("a", 0), mapped("b", 1), mapped("c", 1), union("u", 1, 2, 3), union("v", 1, 4), sink("t", 5)), 1, api.ErrShape)
	asked(t, jobOf(source("s"), mapped("a", 0), mapped("b", 1), mapped("c", 1), union("u", 1, 2, 3), sink("t", 4)), 0, 0)
	// the last one but one
	asked(t, jobOf(source("s"), mapped("a", 0), mapped("b", 1), sink("t", 1)), 2, api.ErrShape)
	asked(t, jobOf(source("s"), mapped("a", 0), mapped("b", 0), sink("t", 2)), 1, api.ErrShape)
}

// TestFlats: P12.1: just MaxFlats of NdFlat, and more.
func TestFlats(t *testing.T) {
	for mask := range 1 << 6 {
		j := line(8)
		l := []int{}
		for i := range 6 {
			j.Nodes[1+i] = mapped("m"+strconv.Itoa(i), i)
			if mask>>i&1 == 1 {
				j.Nodes[1+i] = flat("f"+strconv.Itoa(i), i)
				l = append(l, 1+i)
			}
		}
		if len(l) <= 2 {
			asked(t, j, 0, 0)
		} else {
			asked(t, j, l[2], api.ErrShape)
		}
	}
	// three beside one another have no more than 12 ways
	asked(t, jobOf(source("s"), flat("a", 0), flat("b", 0), flat("c", 0), union("u", 1, 2, 3), sink("t", 4)), 3, api.ErrShape)
	asked(t, jobOf(source("s"), flat("a", 0), flat("b", 0), mapped("c", 0), union("u", 1, 2, 3), sink("t", 4)), 0, 0)
}

// TestWays: P12.1: just MaxWays, one less, and more.
func TestWays(t *testing.T) {
	s, f, g := source("s"), flat("f", 0), flat("g", 1) // 1, 4, 16
	sixteen := func(l ...api.Node) api.Job { return jobOf(append([]api.Node{s, f, g}, l...)...) }
	asked(t, sixteen(mapped("a", 2), union("b", 2, 3), mapped("c", 4), union("d", 4, 5), sink("t", 6)), 0, 0)                                                                       // 64
	asked(t, sixteen(mapped("a", 2), union("b", 2, 3), mapped("c", 4), union("d", 4, 5, 0), sink("t", 6)), 6, api.ErrShape)                                                         // 65
	asked(t, sixteen(mapped("a", 2), union("b", 2, 3), mapped("c", 4), union("d", 4, 5), union("e", 6, 0), sink("t", 7)), 7, api.ErrShape)                                          // 64, 65
	asked(t, sixteen(union("a", 2, 1, 0), mapped("b", 3), mapped("c", 3), union("d", 3, 4, 5), sink("t", 6)), 0, 0)                                                                 // 21, 63
	asked(t, sixteen(union("a", 2, 1, 0), mapped("b", 3), mapped("c", 3), union("d", 3, 4, 5), union("e", 6, 0), sink("t", 7)), 0, 0)                                               // 63, 64
	asked(t, sixteen(union("a", 2, 1, 0), mapped("b", 3), mapped("c", 3), union("d", 3, 4, 5), mapped("x", 0), mapped("y", 7), union("e", 6, 7, 8), sink("t", 9)), 9, api.ErrShape) // 63, 65
	asked(t, sixteen(union("a", 2, 1), mapped("b", 3), mapped("c", 3), union("d", 3, 4, 5), union("e", 6, 1), sink("t", 7)), 0, 0)                                                  // 20, 60, 64
	asked(t, sixteen(union("a", 2, 1), mapped("b", 3), mapped("c", 3), union("d", 3, 4, 5), union("e", 6, 1, 0), sink("t", 7)), 7, api.ErrShape)                                    // 20, 60, 65
	// without NdFlat: three times as many, again and again
	j := jobOf(s)
	for i := range 3 {
		at := len(j.Nodes) - 1
		name := strconv.Itoa(i)
		j.Nodes = append(j.Nodes, mapped("a"+name, at), mapped("b"+name, at), union("u"+name, at, at+1, at+2))
	}
	asked(t, jobOf(append(slices.Clone(j.Nodes), sink("t", 9))...), 0, 0)                                         // 27
	asked(t, jobOf(append(slices.Clone(j.Nodes), flat("f", 9), sink("t", 10))...), 10, api.ErrShape)              // 108
	asked(t, jobOf(append(slices.Clone(j.Nodes), mapped("x", 9), union("y", 9, 10))...), 11, api.ErrShape)        // 54, but no sink
	asked(t, with(jobOf(append(slices.Clone(j.Nodes), mapped("x", 9), sink("t", 10))...), 1, flat("f", 0)), 0, 0) // 6, 18, 54
}

// TestOrder: P12.1: which of several errors is told, and where.
func TestOrder(t *testing.T) {
	bad := api.Node{Uid: "b", Kind: 10}
	j := jobOf(source("s"), bad, source("s"), sink("t", 0))
	asked(t, j, 1, api.ErrNode)
	asked(t, with(j, 0, bad), 0, api.ErrNode)
	asked(t, with(with(j, 1, sink("s", 0)), 2, bad), 1, api.ErrUid)
	asked(t, with(j, 1, api.Node{Uid: "s", Kind: 10}), 1, api.ErrNode)            // both at one node
	asked(t, with(j, 1, source("x")), 2, api.ErrUid)                              // ErrShape ahead of it
	asked(t, with(with(j, 1, source("x")), 2, bad), 2, api.ErrNode)               // so here
	asked(t, with(with(j, 1, source("x")), 2, source("y")), 1, api.ErrShape)      // s is read, x isn't
	asked(t, jobOf(source("s"), sink("x", 0), sink("t", 0), bad), 3, api.ErrNode) // at the last one
	asked(t, jobOf(source("s"), sink("x", 0), sink("t", 0), sink("x", 0)), 3, api.ErrUid)
	asked(t, jobOf(mapped("x", 0), bad), 0, api.ErrNode)
	for _, par := range []int{-1, 0, 5} {
		for _, l := range [][]api.Node{j.Nodes, {bad, bad}, {source("s"), sink("s", 0)}, {source("s"), source("x")}} {
			asked(t, api.Job{Par: par, Nodes: l}, 0, api.ErrArg)
		}
	}
	asked(t, jobOf(bad), 0, api.ErrArg)
	asked(t, jobOf(slices.Repeat([]api.Node{bad}, 13)...), 0, api.ErrArg)
	asked(t, jobOf(slices.Repeat([]api.Node{bad}, 12)...), 0, api.ErrNode)
	many := api.Node{Uid: "b", Kind: 2, In: []int{0}, X: full(1001)}
	asked(t, jobOf(bad, many), 0, api.ErrArg)
	asked(t, jobOf(source("s"), sink("s", 0), many), 0, api.ErrArg)
	asked(t, jobOf(source("s"), source("x"), source("y"), many), 0, api.ErrArg)
}

// TestReaders: P12.2: of nodes that are read once and more than once, of places that there are not, and of jobs that may not be.
func TestReaders(t *testing.T) {
	j := jobOf(source("s"), mapped("a", 0), mapped("b", 0), union("u", 2, 0, 1), mapped("c", 3), union("v", 4, 3), sink("t", 5))
	asked(t, j, 0, 0)
	for at, want := range [][]int{{1, 2, 3}, {3}, {3}, {4, 5}, {5}, {6}, {}} {
		read(t, j, at, want...)
	}
	for _, at := range []int{math.MinInt, -1 << 32, -7, -1, 7, 8, 11, 12, 13, 256, 1 << 32, math.MaxInt} {
		read(t, j, at)
	}
	for many := 2; many <= 12; many++ {
		for at := -2; at < many+3; at++ {
			if 0 <= at && at < many-1 {
				read(t, line(many), at, at+1)
			} else {
				read(t, line(many), at)
			}
		}
	}
	wrong := []api.Job{{}, {Par: 1}, jobOf(source("s")), line(13), {Nodes: j.Nodes}, {Par: 5, Nodes: j.Nodes}, with(j, 1, sink("a", 0)), with(j, 2, mapped("a", 0)), with(j, 5, mapped("v", 3)), with(j, 6, mapped("t", 5)), with(j, 6, sink("t", 6)), with(j, 4, flat("3", 3))}
	for _, k := range wrong {
		if _, e := job.May(k); e == api.OK {
			t.Error(shown(k))
		}
		for at := -1; at < 14; at++ {
			read(t, k, at)
		}
	}
}

// TestReadersOwn: R3, R5: what Readers answers is nobody else's.
func TestReadersOwn(t *testing.T) {
	j := jobOf(source("s"), mapped("a", 0), union("u", 0, 1), sink("t", 2))
	l := job.Readers(j, 0)
	for i := range l {
		l[i] = 77
	}
	_ = append(l, 5)
	read(t, j, 0, 1, 2)
	asked(t, j, 0, 0)
}

// TestFind: P12.2: a name that is there, and one that isn't; also of jobs that may not be.
func TestFind(t *testing.T) {
	j := jobOf(source("s"), mapped("a", 0), mapped("A", 0), union("ä", 1, 2), sink("t", 3))
	for at, n := range j.Nodes {
		found(t, j, n.Uid, at)
	}
	for _, uid := range []string{"", "S", "x", "aa", "s ", "Ä", "\xff", "t\x00", strings.Repeat("a", 1<<16)} {
		found(t, j, uid, -1)
		found(t, api.Job{}, uid, -1)
		found(t, api.Job{Par: 1, Nodes: []api.Node{}}, uid, -1)
	}
	k := jobOf(api.Node{Uid: ""}, api.Node{Uid: "\xff"}, api.Node{Uid: "\xff"}, api.Node{Uid: "x"}, api.Node{Uid: ""})
	found(t, k, "", 0)
	found(t, k, "\xff", 1)
	found(t, k, "x", 3)
	found(t, k, "\xfe", -1)
	found(t, line(40), "n39", 39)
	found(t, line(40), "n40", -1)
}

// TestStateful: P12.3: of each Kind.
func TestStateful(t *testing.T) {
	for kind := range 256 {
		if job.Stateful(uint8(kind)) != (kind == 6 || kind == 7) {
			t.Error(kind)
		}
	}
}

// same asks Same, both ways round.
func same(t *testing.T, a, b api.Job, want bool) {
	t.Helper()
	if job.Same(a, b) != want || job.Same(b, a) != want {
		t.Errorf("Same(%.600s and %.600s) = %v, the other way round %v, want %v", shown(a), shown(b), job.Same(a, b), job.Same(b, a), want)
	}
}

// TestSame: P12.3: of jobs that are alike, and of jobs that differ in one thing.
func TestSame(t *testing.T) {
	j := jobOf(source("s"), mapped("a", 0), node(7, "w", 0), union("u", 1, 2), sink("t", 3))
	same(t, j, j, true)
	same(t, j, copied(j), true)
	par := j
	par.Par = 2
	same(t, j, par, false)
	for at := range j.Nodes {
		differ := func(change func(n *api.Node)) {
			t.Helper()
			k := copied(j)
			change(&k.Nodes[at])
			same(t, j, k, false)
		}
		differ(func(n *api.Node) { n.Uid += "x" })
		differ(func(n *api.Node) { n.Uid = strings.ToUpper(n.Uid) })
		differ(func(n *api.Node) { n.Kind++ })
		differ(func(n *api.Node) { n.Kind += 128 })
		differ(func(n *api.Node) { n.N++ })
		differ(func(n *api.Node) { n.N = -1 })
		differ(func(n *api.Node) { n.In = append(n.In, 9) })
		differ(func(n *api.Node) { n.X.Op++ })
		differ(func(n *api.Node) { n.X.N++ })
		differ(func(n *api.Node) { n.X.Args = append(n.X.Args, api.Expr{}) })
		if len(j.Nodes[at].In) > 0 {
			differ(func(n *api.Node) { n.In[0]++ })
			differ(func(n *api.Node) { n.In = n.In[1:] })
			differ(func(n *api.Node) { n.In = n.In[:len(n.In)-1] })
		}
		if len(j.Nodes[at].X.Args) > 0 {
			differ(func(n *api.Node) { n.X.Args[1].N++ })
			differ(func(n *api.Node) { n.X.Args = n.X.Args[:1] })
			differ(func(n *api.Node) { slices.Reverse(n.X.Args) })
		}
	}
	turned := copied(j)
	slices.Reverse(turned.Nodes[3].In)
	same(t, j, turned, false)
	turned = copied(j)
	slices.Reverse(turned.Nodes)
	same(t, j, turned, false)
	for many := range j.Nodes {
		same(t, j, api.Job{Par: j.Par, Nodes: j.Nodes[:many]}, false)
		same(t, j, api.Job{Par: j.Par, Nodes: j.Nodes[many+1:]}, false)
	}
}

// TestSameOfAny: P12.3: none and an empty list are alike; jobs that may not be are the same, too, if they are.
func TestSameOfAny(t *testing.T) {
	same(t, api.Job{}, api.Job{}, true)
	same(t, api.Job{}, api.Job{Nodes: []api.Node{}}, true)
	same(t, api.Job{}, api.Job{Nodes: []api.Node{{}}}, false)
	same(t, api.Job{}, api.Job{Par: -1}, false)
	a := api.Job{Par: -7, Nodes: []api.Node{{Uid: "\xff", Kind: 99, N: math.MinInt, In: []int{math.MaxInt}}}}
	same(t, a, copied(a), true)
	same(t, jobOf(api.Node{}), jobOf(api.Node{In: []int{}, X: api.Expr{Args: []api.Expr{}}}), true)
	same(t, jobOf(api.Node{}), jobOf(api.Node{In: []int{0}}), false)
	same(t, jobOf(api.Node{}, api.Node{}), jobOf(api.Node{}), false)
	same(t, jobOf(mapped("a", 0)), jobOf(flat("a", 0)), false)
}
