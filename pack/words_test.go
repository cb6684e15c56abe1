package pack_test

import (
	"slices"
	"strconv"
	"strings"
	"testing"

	"changeling/api"
	"changeling/bytes"
	"changeling/job"
	"changeling/pack"
	"changeling/script"
)

// saysExpr and saysPut are the bytes by the chapter's words.
func saysExpr(x api.Expr) string {
	s := bytes.Put(int64(x.Op)) + bytes.Put(x.N) + bytes.Put(int64(len(x.Args)))
	for _, a := range x.Args {
		s += saysExpr(a)
	}
	return s
}

func saysPut(j api.Job) (string, api.Errno) {
	if _, e := job.May(j); e != api.OK {
		return "", api.ErrArg
	}
	s := bytes.Put(int64(j.Par)) + bytes.Put(int64(len(j.Nodes)))
	for _, n := range j.Nodes {
		uid, _ := bytes.PutText(n.Uid)
		s += uid + bytes.Put(int64(n.Kind)) + bytes.Put(int64(n.N)) + bytes.Put(int64(len(n.In)))
		for _, i := range n.In {
			s += bytes.Put(int64(i))
		}
		s += saysExpr(n.X)
	}
	return s, api.OK
}

// rest is what is left of bytes; a fault in what stands next is a panic of its error.
type rest string

func (r *rest) number() int64 {
	n, size, e := bytes.Take(string(*r))
	if e != api.OK {
		panic(e)
	}
	*r = (*r)[size:]
	return n
}

func (r *rest) upTo(most int64, e api.Errno) int {
	n := r.number()
	if n < 0 || n > most {
		panic(e)
	}
	return int(n)
}

func (r *rest) text() string {
	s, size, e := bytes.TakeText(string(*r))
	if e != api.OK {
		panic(e)
	}
	*r = (*r)[size:]
	return s
}

// expr reads one that has level ones around it.
func (r *rest) expr(level int) api.Expr {
	if level > 16 {
		panic(api.ErrLong)
	}
	op := r.upTo(255, api.ErrArg)
	n := r.number()
	args := make([]api.Expr, r.upTo(3, api.ErrLong))
	for i := range args {
		args[i] = r.expr(level + 1)
	}
	return api.Expr{Op: uint8(op), N: n, Args: args}
}

// saysTake is Take by the chapter's words.
func saysTake(s string) (j api.Job, e api.Errno) {
	defer func() {
		if fault := recover(); fault != nil {
			j, e = api.Job{}, fault.(api.Errno)
		}
	}()
	r := rest(s)
	j.Par = int(r.number())
	j.Nodes = make([]api.Node, r.upTo(12, api.ErrLong))
	for i := range j.Nodes {
		n := &j.Nodes[i]
		n.Uid = r.text()
		n.Kind = uint8(r.upTo(255, api.ErrArg))
		n.N = int(r.number())
		n.In = make([]int, r.upTo(12, api.ErrLong))
		for i := range n.In {
			n.In[i] = int(r.number())
		}
		n.X = r.expr(0)
	}
	if _, e := job.May(j); e != api.OK || r != "" {
		panic(api.ErrArg)
	}
	return j, api.OK
}

// holdsPut holds Put against the chapter's words, and Take of the bytes (P14.3); and asks that the job is as it was.
func holdsPut(t *testing.T, j api.Job) api.Errno {
	t.Helper()
	before := copied(j)
	s, e := saysPut(j)
	if e == api.OK {
		both(t, j, s)
	} else {
		unput(t, j)
	}
	if !job.Same(j, before) {
		t.Errorf("%.900v was %.900v", j, before)
	}
	return e
}

// holds holds Take against the chapter's words, and Put of the job (P14.3).
func holds(t *testing.T, s string) api.Errno {
	t.Helper()
	j, e := saysTake(s)
	if e == api.OK {
		both(t, j, s)
	} else {
		wrong(t, s, e)
	}
	return e
}

func copiedExpr(x api.Expr) api.Expr {
	y := api.Expr{Op: x.Op, N: x.N}
	for _, a := range x.Args {
		y.Args = append(y.Args, copiedExpr(a))
	}
	return y
}

// copied shares nothing with j.
func copied(j api.Job) api.Job {
	k := api.Job{Par: j.Par}
	for _, n := range j.Nodes {
		n.In, n.X = slices.Clone(n.In), copiedExpr(n.X)
		k.Nodes = append(k.Nodes, n)
	}
	return k
}

// picker picks numbers from one start.
type picker uint64

func (p *picker) of(n int) int {
	*p = *p*6364136223846793005 + 1442695040888963407
	return int(uint64(*p) >> 33 % uint64(n))
}

func (p *picker) word(l ...string) string { return l[p.of(len(l))] }

// number is one of whatever length; at times it is below 0.
func (p *picker) number() int {
	n := p.of(1<<31) << 32 >> p.of(64)
	if p.of(4) == 0 {
		return -1 - n
	}
	return n
}

// text is that of an expression of a number, or else of a truth, of so many levels at most, but for its parentheses.
func (p *picker) text(truth bool, deep int, accs ...string) string {
	number := func() string { return p.text(false, deep-1, accs...) }
	yes := func() string { return p.text(true, deep-1, accs...) }
	switch {
	case truth && (deep <= 2 || p.of(3) == 0):
		return "(" + number() + p.word(" < ", " <= ", " = ", " != ") + number() + ")"
	case truth && p.of(3) == 0:
		return "!" + yes()
	case truth:
		return "(" + yes() + p.word(" & ", " | ", " = ", " != ") + yes() + ")"
	case deep <= 1 || p.of(4) == 0:
		return p.word(append(accs, "key", "val", strconv.Itoa(p.of(100)), strconv.Itoa(p.of(1<<31)<<p.of(33)))...)
	case p.of(5) == 0:
		return "-" + number()
	case deep > 3 && p.of(4) == 0:
		return "(if " + yes() + " then " + number() + " else " + number() + ")"
	}
	return "(" + number() + p.word(" + ", " - ", " * ", " / ", " % ") + number() + ")"
}

// node is a line of a node that reads this one.
func (p *picker) node(uid, in string) string {
	deep := 1 + p.of(5)
	switch kind := p.word("map", "filter", "flat", "key", "key", "reduce", "window", "window"); kind {
	case "window":
		return uid + " window " + in + " " + strconv.Itoa(1+p.of(16))
	case "filter":
		return uid + " filter " + in + " : " + p.text(true, deep)
	case "reduce":
		return uid + " reduce " + in + " : " + p.text(false, deep, "acc", "acc")
	default:
		return uid + " " + kind + " " + in + " : " + p.text(false, deep)
	}
}

// grown is a job that may be.
func (p *picker) grown() api.Job {
	for {
		lines := []string{"par " + strconv.Itoa(1+p.of(4))}
		name := func() string {
			return p.word("n", "map", "ä", "x-", "Z9", "source", "Ünïon") + strconv.Itoa(p.of(100000))
		}
		uids := []string{name()}
		lines = append(lines, uids[0]+" source")
		open := slices.Clone(uids) // nobody reads these
		for many := p.of(12); len(uids) < many || len(open) > 1; {
			uid, in := name(), []string{open[p.of(len(open))]}
			if p.of(3) == 0 {
				in[0] = uids[p.of(len(uids))]
			}
			line := p.node(uid, in[0])
			if others := slices.DeleteFunc(slices.Clone(open), func(u string) bool { return u == in[0] }); len(others) > 0 && p.of(2) == 0 {
				in = append(in, others[:min(len(others), 2)]...)
				line = uid + " union " + strings.Join(in, " ")
			}
			open = append(slices.DeleteFunc(open, func(u string) bool { return slices.Contains(in, u) }), uid)
			uids, lines = append(uids, uid), append(lines, line)
		}
		lines = append(lines, name()+" sink "+open[0])
		if j, _, e := script.Parse(strings.Join(lines, "\n")); e == api.OK {
			return j
		}
	}
}

// TestGrown: P14.1 to P14.3: whatever jobs.
func TestGrown(t *testing.T) {
	p := picker(14)
	sizes, met := map[int]int{}, map[uint8]int{}
	for range 6000 {
		j := p.grown()
		if e := holdsPut(t, j); e != api.OK {
			t.Error(e)
		}
		sizes[len(j.Nodes)]++
		for _, n := range j.Nodes {
			met[n.Kind]++
		}
		if t.Failed() {
			t.FailNow()
		}
	}
	for size := 2; size <= 12; size++ {
		if sizes[size] < 50 {
			t.Error(sizes)
		}
	}
	for kind := uint8(1); kind <= 9; kind++ {
		if met[kind] < 300 {
			t.Error(met)
		}
	}
}

// TestApart: P14.3: the bytes of two jobs are the same just if the jobs are; none's begin another one's.
func TestApart(t *testing.T) {
	p := picker(143)
	same, differ := 0, 0
	for range 6000 {
		j := p.grown()
		k := copied(j)
		if p.of(5) > 0 {
			p.change(&k)
		} else if p.of(2) == 0 {
			k = p.grown()
		}
		a, e := pack.Put(j)
		b, f := pack.Put(k)
		if e != api.OK || f != api.OK {
			continue
		}
		if alike := job.Same(j, k); (a == b) != alike || !alike && (strings.HasPrefix(a, b) || strings.HasPrefix(b, a)) {
			t.Fatalf("% x and % x", a, b)
		}
		if a == b {
			same++
		} else {
			differ++
		}
	}
	if same < 300 || differ < 1000 {
		t.Error(same, differ)
	}
}

// change changes one thing; the job may be then, or not.
func (p *picker) change(j *api.Job) {
	n := &j.Nodes[p.of(len(j.Nodes))]
	x := &n.X
	for len(x.Args) > 0 && p.of(3) > 0 {
		x = &x.Args[p.of(len(x.Args))]
	}
	switch p.of(12) {
	case 0:
		j.Par = p.of(7) - 1
	case 1:
		n.Uid = p.word("", "7", "a b", "\xff", "ß", "a:", "#", j.Nodes[0].Uid, "a\n", "other")
	case 2:
		n.Kind = uint8(p.of(256))
	case 3:
		n.Kind = uint8(p.of(11))
	case 4:
		n.In = append(n.In, p.of(13)-1)
	case 5:
		n.In = n.In[:len(n.In)/2]
	case 6:
		slices.Reverse(n.In)
	case 7:
		n.N = p.of(20) - 1
	case 8:
		x.Op = uint8(p.of(20))
	case 9:
		x.N = int64(p.number())
	case 10:
		x.Args = append(x.Args, api.Expr{Op: uint8(p.of(5))})
	default:
		*x = api.Expr{Op: uint8(2 + p.of(2))}
	}
}

// TestAnyJob: P14.1, R1: jobs with one thing changed, or two.
func TestAnyJob(t *testing.T) {
	p := picker(7)
	many := map[api.Errno]int{}
	for range 20000 {
		j := p.grown()
		for range 1 + p.of(2) {
			p.change(&j)
		}
		many[holdsPut(t, j)]++
		s, _ := unchecked(j)
		many[10+holds(t, s)]++
		if t.Failed() {
			t.FailNow()
		}
	}
	for _, e := range []api.Errno{0, 2, 10, 12} {
		if many[e] < 1000 {
			t.Error(many)
		}
	}
}

// unchecked are the bytes that j would have, whether it may be or not; and where in them each item begins.
func unchecked(j api.Job) (s string, at []int) {
	add := func(items ...any) {
		for _, i := range items {
			at = append(at, len(s))
			s += row(i)
		}
	}
	var expr func(x api.Expr)
	expr = func(x api.Expr) {
		add(int(x.Op), int(x.N), len(x.Args))
		for _, a := range x.Args {
			expr(a)
		}
	}
	add(j.Par, len(j.Nodes))
	for _, n := range j.Nodes {
		add(n.Uid, int(n.Kind), n.N, len(n.In))
		for _, i := range n.In {
			add(i)
		}
		expr(n.X)
	}
	return s, at
}

// changed is s, with one item or some bytes changed.
func (p *picker) changed(s string, at []int) string {
	i := p.of(len(at))
	from, to := at[i], len(s)
	if i+1 < len(at) {
		to = at[i+1]
	}
	b := p.of(len(s) + 1)
	switch p.of(9) {
	case 0:
		return s[:from] + row(p.number()) + s[to:]
	case 1:
		return s[:from] + row(p.of(24)-4) + s[to:]
	case 2:
		return s[:from] + s[to:]
	case 3:
		return s[:to] + s[from:]
	case 4:
		return s[:from] + row(p.of(20)) + s[from:]
	case 5:
		return s[:b]
	case 6:
		return s[:b] + string([]byte{byte(p.of(256))}) + s[b:]
	case 7:
		return s[:b] + string([]byte{byte(p.of(256))}) + s[min(b+1, len(s)):]
	default:
		return s[:b] + s[min(b+1+p.of(3), len(s)):]
	}
}

// TestChanged: P14.2, P14.3: bytes of jobs with one thing changed, or some.
func TestChanged(t *testing.T) {
	p := picker(141)
	many := map[api.Errno]int{}
	for range 30000 {
		s, at := unchecked(p.grown())
		s = p.changed(s, at)
		for s != "" && p.of(4) == 0 {
			s = p.changed(s, []int{0, p.of(len(s))})
		}
		many[holds(t, s)]++
		if t.Failed() {
			t.FailNow()
		}
	}
	for _, e := range []api.Errno{0, 2, 3, 20, 21} {
		if many[e] < 300 {
			t.Error(many)
		}
	}
}

// TestAllBytes: P14.2, R1: each byte at each place of some jobs' bytes; for another one, and between two.
func TestAllBytes(t *testing.T) {
	for _, s := range []string{row(1, 2, source, sink("t", 0)), row(parts()...), withX(18, 0, 3, 6, 0, 1, 12, 0, 2, key, val, 1, 12345678, 0, 5, 0, 1, val), between(7, 16, 1, 0, none)} {
		if holds(t, s) != api.OK {
			t.Errorf("% x", s)
		}
		for at := range len(s) + 1 {
			for b := range 256 {
				one := string([]byte{byte(b)})
				holds(t, s[:at]+one+s[at:])
				holds(t, s[:at]+one+s[min(at+1, len(s)):])
				holds(t, s[:at]+one)
			}
			holds(t, s[at:])
			for from := range at {
				holds(t, s[:from]+s[at:])
			}
			if t.Failed() {
				t.FailNow()
			}
		}
	}
}

// TestAllNumbers: P14.2: all rows of up to five numbers out of these, as a whole, behind a source, and as a map's X.
func TestAllNumbers(t *testing.T) {
	many := map[api.Errno]int{}
	numbers := []int{-1, 0, 1, 2, 3, 7, 13, 256}
	end := row(sink("t", 1)...)
	var grow func(s string, left int)
	grow = func(s string, left int) {
		for _, ahead := range []string{"", row(1, 2, source), row(1, 3, source, "m"), row(1, 3, source, "m", 2, 0, 1, 0)} {
			many[holds(t, ahead+s)]++
			many[holds(t, ahead+s+end)]++
		}
		for _, n := range numbers {
			if left > 0 && !t.Failed() {
				grow(s+row(n), left-1)
			}
		}
	}
	grow("", 5)
	for _, e := range []api.Errno{2, 3, 20, 21} {
		if many[e] < 1000 {
			t.Error(many)
		}
	}
	if many[0] < 2 {
		t.Error(many)
	}
}

// TestAnything: P14.2, R1: whatever bytes and pieces.
func TestAnything(t *testing.T) {
	p := picker(3)
	pieces := []string{row(1), row(2), row(0), row(0), row(0, 0, 0), row(key...), row(val...), row(7, 0, 2), row(5, 0, 1), row(source...), row(sink("t", 0)...), row(sink("t", 1)...), row("m", 2, 0, 1, 0), row("w", 7, 3, 1, 0, none), row(-1), row(1000), "\x80\x00", "\xff"}
	many := map[api.Errno]int{}
	for range 100000 {
		s := p.word("", row(1), row(1, 2), row(2, 3, source), row(3, 2, source))
		for range p.of(9) {
			if p.of(20) == 0 {
				s += string([]byte{byte(p.of(256))})
			} else {
				s += pieces[p.of(len(pieces))]
			}
		}
		many[holds(t, s)]++
		if t.Failed() {
			t.FailNow()
		}
	}
	for _, e := range []api.Errno{0, 2, 3, 20, 21} {
		if many[e] < 100 {
			t.Error(many)
		}
	}
}

// TestMuch: P14.2, R1: many bytes; and counts that promise far more than there is.
func TestMuch(t *testing.T) {
	for b := range 256 {
		holds(t, strings.Repeat(string([]byte{byte(b)}), 1<<16))
	}
	for _, piece := range []string{row(1, 12), row(1, 1, "", 0, 0, 12), row(1, 12, "", 0, 0, 0), row(2, 2, source), row(parts()...), row(12), row(3, 3, 3), row(2, 0, 1)} {
		for _, ahead := range []string{"", row(1), row(1, 2), row(1, 3, source, "m", 2, 0, 12), row(1, 3, source, "m", 2, 0, 1, 0)} {
			for _, many := range []int{1, 2, 3, 17, 18, 1000, 1 << 17} {
				holds(t, ahead+strings.Repeat(piece, many))
			}
		}
	}
	broad := nested(1, 0, 0, 0, 3, 0, 0) // three Args on each of many levels
	for levels := 2; levels <= 10; levels++ {
		broad = []any{18, 0, 3, broad, broad, broad}
		s := withX(broad...)
		wrong(t, s, api.ErrArg)
		wrong(t, s[:len(s)-1], api.ErrShort)
		wrong(t, s+"\x00", api.ErrArg)
	}
}

// TestParts: P14.1, P14.2: as many parts as may be, and one more.
func TestParts(t *testing.T) {
	for total := 990; total < 1010; total++ {
		lines, s := []string{"par 1", "s source"}, row(1, 11, source)
		left := total - 2 // those of the source and the sink
		for at := range 9 {
			many := 110
			if at == 8 {
				many = left
			}
			left -= many
			uid, in := "n"+strconv.Itoa(at+1), "n"+strconv.Itoa(at)
			if at == 0 {
				in = "s"
			}
			x, items := full(many)
			lines, s = append(lines, uid+" map "+in+" : "+x), s+row(uid, 2, 0, 1, at, items)
		}
		s += row(sink("t", 9)...)
		if total <= 1000 {
			both(t, jobOf(t, append(lines, "t sink n9")...), s)
			continue
		}
		wrong(t, s, api.ErrArg)
	}
}

// full is an expression with just so many parts, its text and its items.
func full(parts int) (string, []any) {
	switch parts {
	case 1:
		return "val", val
	case 2:
		return "-val", []any{5, 0, 1, val}
	}
	a, l := full((parts - 1) / 2)
	b, m := full(parts - 1 - (parts-1)/2)
	return "(" + a + "*" + b + ")", []any{9, 0, 2, l, m}
}

// TestKept: R3: what is handed in is not changed, nor what stands behind a list's end; that is no part of it.
func TestKept(t *testing.T) {
	in, args := []int{1, 0, 77}, []api.Expr{{Op: 3}, {Op: 2}, {Op: 99}}
	nodes := []api.Node{
		{Uid: "s", Kind: 1}, {Uid: "m", Kind: 2, In: []int{0}, X: api.Expr{Op: 7, Args: args[:2]}}, {Uid: "u", Kind: 8, In: in[:2]},
		{Uid: "t", Kind: 9, In: []int{2}}, {Uid: "x", Kind: 9, In: []int{2}},
	}
	put(t, api.Job{Par: 1, Nodes: nodes[:4]}, row(1, 4, source, "m", 2, 0, 1, 0, 7, 0, 2, val, key, "u", 8, 0, 2, 1, 0, none, sink("t", 2)))
	unput(t, api.Job{Par: 1, Nodes: nodes[:3]})
	unput(t, api.Job{Par: 1, Nodes: nodes})
	if !slices.Equal(in, []int{1, 0, 77}) || args[0].Op != 3 || args[1].Op != 2 || args[2].Op != 99 || nodes[4].Uid != "x" || nodes[4].In[0] != 2 {
		t.Error(nodes, in, args)
	}
}

// TestAgain: R5: what was asked before makes no difference; what was answered is nobody else's.
func TestAgain(t *testing.T) {
	p := picker(55)
	var all []string
	for len(all) < 100 {
		s, at := unchecked(p.grown())
		if p.of(3) == 0 {
			s = p.changed(s, at)
		}
		all = append(all, s)
	}
	for range 2000 {
		s := all[p.of(len(all))]
		holds(t, s)
		j, e := pack.Take(s)
		k, _ := pack.Take(s)
		for i := range j.Nodes {
			for at := range j.Nodes[i].In {
				j.Nodes[i].In[at] = 7
			}
			for at := range j.Nodes[i].X.Args {
				j.Nodes[i].X.Args[at] = api.Expr{Op: 4}
			}
			_ = append(j.Nodes[i].In, 5)
			_ = append(j.Nodes[i].X.Args, api.Expr{Op: 5})
			j.Nodes[i] = api.Node{Uid: "x"}
		}
		if e == api.OK {
			put(t, k, s)
			holds(t, s)
		}
	}
}

// TestOwn: no two lists of one answer share what they have.
func TestOwn(t *testing.T) {
	p := picker(77)
	for range 300 {
		s, _ := unchecked(p.grown())
		j, _ := pack.Take(s)
		for i, n := range j.Nodes {
			before := copied(j)
			if len(n.In) > 0 {
				_ = append(n.In, 99, 99, 99)
			}
			_ = append(n.X.Args, api.Expr{Op: 99}, api.Expr{Op: 99})
			for _, a := range n.X.Args {
				_ = append(a.Args, api.Expr{Op: 99}, api.Expr{Op: 99})
			}
			if !job.Same(j, before) {
				t.Fatal(i, j, before)
			}
		}
	}
}

// TestShared: R1, P14.1: expressions whose Args are shared on all levels.
func TestShared(t *testing.T) {
	for op := uint8(5); op <= 18; op++ {
		many := []int{1, 1, 2, 2, 2, 2, 2, 2, 2, 2, 2, 2, 2, 3}[op-5]
		x := api.Expr{Op: 2}
		for deep := 1; deep <= 70; deep++ {
			j := api.Job{Par: 1, Nodes: []api.Node{{Uid: "s", Kind: 1}, {Uid: "m", Kind: 2, In: []int{0}, X: x}, {Uid: "t", Kind: 9, In: []int{1}}}}
			if _, e := job.May(j); e != api.OK {
				unput(t, j)
			} else {
				both(t, j, withX(raw(saysExpr(x))))
			}
			x = api.Expr{Op: op, Args: slices.Repeat([]api.Expr{x}, many)}
		}
	}
}

// TestEndless: R1, P14.1: expressions that have themselves in them, that are much too deep, or have many Args.
func TestEndless(t *testing.T) {
	ask := func(x api.Expr) {
		t.Helper()
		for kind := range uint8(11) {
			j := api.Job{Par: 1, Nodes: []api.Node{{Uid: "s", Kind: 1}, {Uid: "m", Kind: kind, In: []int{0}, X: x}, {Uid: "t", Kind: 9, In: []int{1}}}}
			unput(t, j)
			j.Nodes[0].X, j.Nodes[2].X = x, x
			unput(t, j)
		}
	}
	for _, op := range []uint8{0, 1, 5, 7, 18, 19, 255} {
		for many := 1; many <= 4; many++ {
			ring := make([]api.Expr, many)
			for i := range ring {
				ring[i] = api.Expr{Op: op, Args: ring}
			}
			ask(ring[0])
			ask(api.Expr{Op: 5, Args: ring[:1]})
			ask(api.Expr{Op: 7, Args: []api.Expr{{Op: 2}, ring[0]}})
		}
		x := api.Expr{Op: 2}
		for range 1 << 12 {
			x = api.Expr{Op: op, Args: []api.Expr{x}}
		}
		ask(x)
	}
	ask(api.Expr{Op: 7, Args: slices.Repeat([]api.Expr{{Op: 2}}, 1<<12)})
}
