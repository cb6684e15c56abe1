package job_test

import (
	"math"
	"slices"
	"strconv"
	"strings"
	"testing"

	"changeling/api"
	"changeling/job"
	"changeling/kind"
	"changeling/names"
)

func alike(a, b api.Expr) bool {
	return a.Op == b.Op && a.N == b.N && slices.EqualFunc(a.Args, b.Args, alike)
}

// alikeJobs is Same by the words of DOC.md.
func alikeJobs(a, b api.Job) bool {
	if a.Par != b.Par || len(a.Nodes) != len(b.Nodes) {
		return false
	}
	for i, m := range a.Nodes {
		n := b.Nodes[i]
		if m.Uid != n.Uid || m.Kind != n.Kind || m.N != n.N || len(m.In) != len(n.In) || !alike(m.X, n.X) {
			return false
		}
		for k := range m.In {
			if m.In[k] != n.In[k] {
				return false
			}
		}
	}
	return true
}

func copiedExpr(x api.Expr) api.Expr {
	y := api.Expr{Op: x.Op, N: x.N}
	for _, a := range x.Args {
		y.Args = append(y.Args, copiedExpr(a))
	}
	return y
}

// copied shares nothing with j.
func copied(j api.Job) api.Job {
	k := api.Job{Par: j.Par}
	for _, n := range j.Nodes {
		n.In, n.X = append([]int(nil), n.In...), copiedExpr(n.X)
		k.Nodes = append(k.Nodes, n)
	}
	return k
}

// mayBe is 'A node may be', by the chapter's words.
func mayBe(n api.Node, at int) bool {
	if !names.Name(n.Uid) || n.Kind == 0 || n.Kind > 9 {
		return false
	}
	many := [][]int{{}, {0}, {1}, {1}, {1}, {1}, {1}, {1}, {2, 3}, {1}}[n.Kind]
	if !slices.Contains(many, len(n.In)) {
		return false
	}
	met := make([]bool, at)
	for _, i := range n.In {
		if i < 0 || i >= at || met[i] {
			return false
		}
		met[i] = true
	}
	switch n.Kind {
	case 1, 8, 9:
		return alike(n.X, api.Expr{}) && n.N == 0
	case 7:
		return alike(n.X, api.Expr{}) && n.N >= 1 && n.N <= 16
	case 3:
		return kind.Is(n.X, false, 2) && n.N == 0
	case 6:
		return kind.Is(n.X, true, 1) && n.N == 0
	}
	return kind.Is(n.X, false, 1) && n.N == 0
}

// ways goes all ways from the first node to the node at: each NdFlat on one is four ways.
func ways(l []api.Node, at int) int {
	if l[at].Kind == 1 {
		return 1
	}
	many := 0
	for _, i := range l[at].In {
		many += ways(l, i)
	}
	if l[at].Kind == 4 {
		many *= 4
	}
	return many
}

// whole is whether the node at hangs together with the others, by the chapter's words.
func whole(l []api.Node, at int) bool {
	read, flats := 0, 0
	for i, n := range l {
		if slices.Contains(n.In, at) {
			read++
		}
		if i <= at && n.Kind == 4 {
			flats++
		}
	}
	last := at+1 == len(l)
	switch {
	case at == 0 && l[at].Kind != 1, at > 0 && l[at].Kind == 1, last && l[at].Kind != 9, !last && l[at].Kind == 9:
		return false
	case !last && (read == 0 || read > 3), l[at].Kind == 4 && flats > 2:
		return false
	}
	return ways(l, at) <= 64
}

// says is May by the chapter's words.
func says(j api.Job) (int, api.Errno) {
	many := 0
	for _, n := range j.Nodes {
		many += parts(n.X)
	}
	if j.Par < 1 || j.Par > 4 || len(j.Nodes) < 2 || len(j.Nodes) > 12 || many > 1000 {
		return 0, 2
	}
	met := map[string]int{}
	for at, n := range j.Nodes {
		if !mayBe(n, at) {
			return at, 120
		}
		if met[n.Uid]++; met[n.Uid] > 1 {
			return at, 121
		}
	}
	for at := range j.Nodes {
		if !whole(j.Nodes, at) {
			return at, 122
		}
	}
	return 0, 0
}

// holds holds all that may be asked of a job against the chapter's words; and asks that it is as it was.
func holds(t *testing.T, j api.Job) api.Errno {
	t.Helper()
	before := copied(j)
	at, e := says(j)
	asked(t, j, at, e)
	for i := -1; i <= len(j.Nodes); i++ {
		var want []int
		for k, n := range j.Nodes {
			if e == 0 && slices.Contains(n.In, i) {
				want = append(want, k)
			}
		}
		read(t, j, i, want...)
	}
	found(t, j, "none-such", -1)
	for i, n := range j.Nodes {
		first := slices.IndexFunc(j.Nodes[:i], func(m api.Node) bool { return m.Uid == n.Uid })
		if first < 0 {
			first = i
		}
		found(t, j, n.Uid, first)
	}
	same(t, j, before, true)
	if !alikeJobs(j, before) {
		t.Errorf("%.600s was %.600s", shown(j), shown(before))
	}
	if e == 0 {
		hangsTogether(t, j)
	}
	return e
}

// hangsTogether: P12.4: from the first node all are reached, by those who read; and from each the last one.
func hangsTogether(t *testing.T, j api.Job) {
	t.Helper()
	many := len(j.Nodes)
	reaches := func(from int) []bool {
		met := make([]bool, many)
		left := []int{from}
		for len(left) > 0 {
			at := left[0]
			left = left[1:]
			for _, i := range job.Readers(j, at) {
				if i <= at {
					t.Errorf("%s: %d reads %d", shown(j), i, at)
				} else if !met[i] {
					met[i] = true
					left = append(left, i)
				}
			}
		}
		return met
	}
	first := reaches(0)
	for at := range many {
		if at > 0 && !first[at] {
			t.Errorf("%s: the first node doesn't lead to %d", shown(j), at)
		}
		l := reaches(at)
		if at < many-1 && !l[many-1] || l[at] {
			t.Errorf("%s: %d leads to %v", shown(j), at, l)
		}
	}
}

// picker picks numbers from one start.
type picker uint64

func (p *picker) of(n int) int {
	*p = *p*6364136223846793005 + 1442695040888963407
	return int(uint64(*p) >> 33 % uint64(n))
}

// number picks one of few digits or of many, also below 0.
func (p *picker) number() int {
	if p.of(2) == 0 {
		return p.of(20) - 2
	}
	return int((int64(p.of(1<<31))<<33 | int64(p.of(1<<31))<<2 | int64(p.of(4))) >> p.of(63))
}

// typed is an expression of at most so many levels, of TyInt (1) or TyBool (2).
func (p *picker) typed(ty, deep int, hasAcc bool) api.Expr {
	x := func(ty int) api.Expr { return p.typed(ty, deep-1, hasAcc) }
	switch {
	case ty == 1 && (deep <= 1 || p.of(5) == 0):
		if hasAcc && p.of(2) == 0 {
			return acc
		}
		return []api.Expr{key, val, num(int64(p.of(100)))}[p.of(3)]
	case deep <= 2 && ty == 2:
		return of(uint8(12+p.of(4)), x(1), x(1))
	}
	if ty == 1 {
		switch p.of(7) {
		case 0:
			return of(5, x(1))
		case 1:
			return of(18, x(2), x(1), x(1))
		}
		return of(uint8(7+p.of(5)), x(1), x(1))
	}
	switch p.of(6) {
	case 0:
		return of(6, x(2))
	case 1:
		return of(18, x(2), x(2), x(2))
	case 2:
		return of(uint8(14+p.of(2)), x(2), x(2))
	case 3:
		return of(uint8(16+p.of(2)), x(2), x(2))
	}
	return of(uint8(12+p.of(4)), x(1), x(1))
}

// filled is the node with an X and N that its kind asks for.
func (p *picker) filled(n api.Node) api.Node {
	switch n.Kind {
	case 2, 4, 5:
		n.X = p.typed(1, 1+p.of(4), false)
	case 3:
		n.X = p.typed(2, 2+p.of(4), false)
	case 6:
		n.X = p.typed(1, 1+p.of(4), true)
	case 7:
		n.N = 1 + p.of(16)
	}
	return n
}

// uid picks a name that is likely no other's.
func (p *picker) uid() string {
	return []string{"n", "map", "ä", "x-", "Z9"}[p.of(5)] + strconv.Itoa(p.of(100000))
}

// any puts the places from 0 to many - 1 in whatever order.
func (p *picker) any(many int) []int {
	l := make([]int, many)
	for i := range l {
		at := p.of(i + 1)
		l[i] = l[at]
		l[at] = i
	}
	return l
}

// grown is a job each of whose nodes is read, if luck will have it; of few nodes, or many.
func (p *picker) grown() api.Job {
	j := api.Job{Par: 1 + p.of(4), Nodes: []api.Node{{Uid: p.uid(), Kind: 1}}}
	open := []int{0} // nobody reads these
	flats := 0
	for many := p.of(12); len(j.Nodes) < many || len(open) > 1; {
		at := len(j.Nodes)
		n := api.Node{Uid: p.uid(), Kind: uint8(2 + p.of(7)), In: []int{p.of(at)}}
		if p.of(3) > 0 {
			n.In[0] = open[p.of(len(open))]
		}
		if n.Kind == 4 {
			flats++
		}
		if n.Kind == 4 && flats > 2 && p.of(10) > 0 {
			n.Kind = 2
		}
		if at > 1 && (n.Kind == 8 || len(open) > 1 && (at+len(open) > many || p.of(2) == 0)) {
			n.Kind, n.In = 8, p.any(at)
			slices.SortStableFunc(n.In, func(a, b int) int { return strings.Compare(side(open, a), side(open, b)) })
			n.In = n.In[:min(at, 2+p.of(2))]
		} else if n.Kind == 8 {
			n.Kind = 5
		}
		open = slices.DeleteFunc(open, func(i int) bool { return slices.Contains(n.In, i) })
		open = append(open, at)
		j.Nodes = append(j.Nodes, p.filled(n))
	}
	j.Nodes = append(j.Nodes, api.Node{Uid: p.uid(), Kind: 9, In: []int{open[0]}})
	return j
}

// side puts those that nobody reads ahead.
func side(open []int, at int) string {
	if slices.Contains(open, at) {
		return "a"
	}
	return "b"
}

// TestGrown: P12.1 to P12.4: whatever jobs.
func TestGrown(t *testing.T) {
	p := picker(12)
	many, sizes := map[api.Errno]int{}, map[int]int{}
	for range 8000 {
		j := p.grown()
		e := holds(t, j)
		many[e]++
		if e == 0 {
			sizes[len(j.Nodes)]++
		}
		if t.Failed() {
			t.FailNow()
		}
	}
	if many[0] < 2000 || many[2] < 50 || many[122] < 100 {
		t.Error(many)
	}
	for size := 2; size <= 12; size++ {
		if sizes[size] < 50 {
			t.Error(sizes)
		}
	}
}

// changed is j with one thing changed: it shares nothing with j.
func (p *picker) changed(j api.Job) api.Job {
	j = copied(j)
	if len(j.Nodes) == 0 || p.of(20) == 0 {
		j.Par = p.of(7) - 1
		return j
	}
	at := p.of(len(j.Nodes))
	n := &j.Nodes[at]
	switch p.of(13) {
	case 0:
		n.Uid = j.Nodes[p.of(len(j.Nodes))].Uid
	case 1:
		n.Uid = []string{"", "7", "a b", "\xff", "ß", strings.Repeat("a", 24), strings.Repeat("a", 25)}[p.of(7)]
	case 2:
		n.Kind = uint8(p.of(11))
	case 3:
		n.Kind = uint8(p.of(11))
		n.X, n.N = api.Expr{}, 0
		*n = p.filled(*n)
	case 4:
		n.N = p.number()
	case 5:
		n.X = p.typed(1+p.of(2), 1+p.of(4), p.of(2) == 0)
	case 6:
		n.X.Op = uint8(p.of(20))
	case 7:
		n.In = append(n.In, p.number())
	case 8:
		n.In = append(n.In, p.of(at+2)-1)
	case 9:
		n.In = n.In[:len(n.In)/2]
	case 10:
		if len(n.In) > 0 {
			n.In[p.of(len(n.In))] = p.of(at+2) - 1
		}
	case 11:
		j.Nodes = slices.Delete(j.Nodes, at, at+1)
	default:
		other := p.of(len(j.Nodes))
		j.Nodes[at], j.Nodes[other] = j.Nodes[other], j.Nodes[at]
	}
	return j
}

// TestChanged: P12.1 to P12.4, R1: jobs with one thing changed, or two.
func TestChanged(t *testing.T) {
	p := picker(121)
	many, differ := map[api.Errno]int{}, 0
	for range 20000 {
		j := p.grown()
		k := p.changed(j)
		if p.of(3) == 0 {
			k = p.changed(k)
		}
		many[holds(t, k)]++
		same(t, j, k, alikeJobs(j, k))
		if !alikeJobs(j, k) {
			differ++
		}
		if t.Failed() {
			t.FailNow()
		}
	}
	for _, e := range []api.Errno{0, 2, 120, 121, 122} {
		if many[e] < 500 {
			t.Error(many)
		}
	}
	if differ < 10000 {
		t.Error(differ)
	}
}

// TestAllSmall: P12.1 to P12.4: all ways in which up to five nodes of few kinds can hang together.
func TestAllSmall(t *testing.T) {
	may := 0
	var grow func(j api.Job, many int)
	grow = func(j api.Job, many int) {
		at := len(j.Nodes)
		if at == many {
			if holds(t, j) == 0 {
				may++
			}
			if t.Failed() {
				t.FailNow()
			}
			return
		}
		uid := "n" + strconv.Itoa(at)
		j.Nodes = j.Nodes[:at:at]
		grow(api.Job{Par: j.Par, Nodes: append(j.Nodes, source(uid))}, many)
		for a := range at {
			for _, kind := range []uint8{4, 5, 9} {
				grow(api.Job{Par: j.Par, Nodes: append(j.Nodes, node(kind, uid, a))}, many)
			}
			for b := range at {
				grow(api.Job{Par: j.Par, Nodes: append(j.Nodes, union(uid, a, b))}, many)
			}
		}
		if at == 3 {
			grow(api.Job{Par: j.Par, Nodes: append(j.Nodes, union(uid, 2, 0, 1))}, many)
		}
	}
	for many := 2; many <= 5; many++ {
		grow(api.Job{Par: 3}, many)
	}
	if may < 50 {
		t.Error(may)
	}
}

// TestAnything: R1: jobs whose nodes have whatever they have.
func TestAnything(t *testing.T) {
	p := picker(5)
	many := map[api.Errno]int{}
	for range 60000 {
		j := api.Job{Par: p.of(4) + 1}
		if p.of(10) == 0 {
			j.Par = p.number()
		}
		for at := range p.of(6) {
			n := api.Node{Uid: []string{"a", "b", "c", "d", "e", "f", "\xff", "", "a\x00"}[(at+p.of(8)/7+p.of(20)/19)%9], Kind: uint8(p.of(10))}
			if at == 0 && p.of(5) > 0 {
				n.Kind = 1
			}
			for range p.of(4) {
				n.In = append(n.In, p.of(max(at, 1)))
			}
			switch {
			case n.Kind == 1 && p.of(5) > 0:
				n.In = nil
			case n.Kind > 1 && n.Kind != 8 && p.of(5) > 0:
				n.In = []int{max(at-1, 0)}
			}
			n = p.filled(n)
			if p.of(20) == 0 {
				n.Kind = uint8(p.of(256))
			}
			if p.of(20) == 0 {
				n.N = p.number()
			}
			j.Nodes = append(j.Nodes, n)
		}
		many[holds(t, j)]++
		if t.Failed() {
			t.FailNow()
		}
	}
	for _, e := range []api.Errno{0, 2, 120, 121, 122} {
		if many[e] < 20 {
			t.Error(many)
		}
	}
}

// TestKept: R3: what is handed in is not changed, nor what stands behind a list's end; that is no part of it.
func TestKept(t *testing.T) {
	nodes := []api.Node{source("s"), mapped("m", 0), union("u", 1, 0), sink("t", 2), sink("s", -1)}
	in, args := []int{1, 0, 77}, []api.Expr{val, key, {Op: 99}}
	nodes[2].In, nodes[1].X.Args = in[:2], args[:2]
	j := jobOf(nodes[:4]...)
	if holds(t, j) != 0 {
		t.Error(shown(j))
	}
	if holds(t, jobOf(nodes[:3]...)) != api.ErrShape || holds(t, jobOf(nodes...)) != api.ErrNode {
		t.Error(shown(j))
	}
	job.Readers(j, 0)
	job.Find(j, "u")
	job.Same(j, jobOf(nodes...))
	if !slices.Equal(in, []int{1, 0, 77}) || !slices.EqualFunc(args, []api.Expr{val, key, {Op: 99}}, alike) || nodes[4].Uid != "s" || nodes[4].In[0] != -1 {
		t.Error(nodes, in, args)
	}
}

// TestAgain: R5: what was asked before makes no difference.
func TestAgain(t *testing.T) {
	p := picker(55)
	var l []api.Job
	for range 100 {
		l = append(l, p.changed(p.grown()))
	}
	for range 2000 {
		j := l[p.of(len(l))]
		at, e := says(j)
		asked(t, j, at, e)
		job.Readers(p.grown(), 1)
	}
}

// TestShared: R1: expressions whose Args are shared on all levels: what stands at many places counts as often.
func TestShared(t *testing.T) {
	for op := uint8(5); op <= 18; op++ {
		many := 2
		switch {
		case op <= 6:
			many = 1
		case op == 18:
			many = 3
		}
		x := key
		for deep := 1; deep <= 70; deep++ {
			j := jobOf(source("s"), mapped("m", 0), sink("t", 1))
			j.Nodes[1].X = x
			at, e := 0, api.ErrArg
			if deep <= 12 || op <= 6 { // not too many to count
				at, e = says(j)
			}
			asked(t, j, at, e)
			if !job.Same(j, j) || len(job.Readers(j, 0)) > 0 != (e == 0) || job.Find(j, "t") != 2 {
				t.Error(op, deep)
			}
			x = of(op, slices.Repeat([]api.Expr{x}, many)...)
		}
	}
}

// TestEndless: R1: expressions that have themselves in them, that are much too deep, or have many Args.
func TestEndless(t *testing.T) {
	ask := func(x api.Expr) {
		t.Helper()
		for kind := range uint8(11) {
			j := jobOf(source("s"), node(kind, "x", 0), sink("t", 1))
			j.Nodes[1].X = x
			asked(t, j, 0, api.ErrArg)
			j.Nodes[0].X, j.Nodes[2].X = x, x
			asked(t, j, 0, api.ErrArg)
			read(t, j, 0)
			found(t, j, "x", 1)
			same(t, j, j, true)
			same(t, j, jobOf(j.Nodes[0], j.Nodes[1], sink("t", 1)), false)
			asked(t, api.Job{Par: 9, Nodes: j.Nodes}, 0, api.ErrArg)
		}
	}
	for _, op := range []uint8{0, 1, 5, 7, 18, 19, 255} {
		for many := 1; many <= 4; many++ {
			ring := make([]api.Expr, many)
			for i := range ring {
				ring[i] = of(op, ring...)
			}
			ask(ring[0])
			ask(of(5, ring[0]))
			ask(of(7, key, ring[0]))
		}
		x := key
		for range 1 << 12 {
			x = of(op, x)
		}
		ask(x)
	}
	ask(of(7, slices.Repeat([]api.Expr{key}, 1<<12)...))
	wide := jobOf(source("s"), sink("t", 0))
	wide.Nodes[0].X = of(1, slices.Repeat([]api.Expr{key}, 1<<20)...)
	asked(t, wide, 0, api.ErrArg)
}

// TestMuch: R1: many nodes, or In, and long names.
func TestMuch(t *testing.T) {
	j := api.Job{Par: 1}
	for at := range 1 << 16 {
		j.Nodes = append(j.Nodes, mapped("a", at-1))
	}
	asked(t, j, 0, api.ErrArg)
	read(t, j, 0)
	found(t, j, "a", 0)
	found(t, j, "b", -1)
	same(t, j, j, true)
	k := jobOf(source("s"), mapped("m", 0), sink("t", 1))
	for _, many := range []int{4, 5, 1000, 1 << 20} {
		for kind := uint8(1); kind <= 9; kind++ {
			l := with(k, 1, node(kind, "m", make([]int, many)...))
			asked(t, l, 1, api.ErrNode)
			read(t, l, 0)
			for i := range l.Nodes[1].In {
				l.Nodes[1].In[i] = math.MaxInt - i
			}
			asked(t, l, 1, api.ErrNode)
		}
	}
	long := strings.Repeat("a", 1<<22)
	asked(t, jobOf(source(long), sink(long, 0)), 0, api.ErrNode)
	found(t, jobOf(source(long), sink(long, 0)), strings.Repeat("a", 1<<22), 0)
}
