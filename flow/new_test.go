package flow_test

import (
	"slices"
	"strings"
	"testing"

	"changeling/api"
	"changeling/flow"
	"changeling/ideal"
	"changeling/job"
)

// of18 is the job of chapter 18.
func of18(par int) api.Job {
	return jobOf(par, "s source", "r reduce s : acc + val", "t sink r")
}

// shortest is a job of two nodes.
func shortest(par int) api.Job { return jobOf(par, "s source", "t sink s") }

// TestConstants: errors, limits and kinds by the numbers that the document says.
func TestConstants(t *testing.T) {
	if got := [...]api.Errno{api.OK, api.ErrNil, api.ErrArg, api.ErrShort, api.ErrForm, api.ErrKeeps, api.ErrSchema}; got != [...]api.Errno{0, 1, 2, 20, 21, 180, 181} {
		t.Error(got)
	}
	if got := [...]int{api.Ins, api.Parts, api.MaxPar, api.MaxRoom, api.Groups, api.MaxKeys}; got != [...]int{2, 2, 4, 8, 8, 40} {
		t.Error(got)
	}
	if got := [...]uint8{api.WkRecs, api.WkBar}; got != [...]uint8{1, 2} {
		t.Error(got)
	}
}

// TestNil: R4 and P20.2 to P20.4: what is asked of none.
func TestNil(t *testing.T) {
	var f *flow.Flow
	for _, part := range []int{least, -1, 0, 1, 2, greatest} {
		if e := f.Feed(part, 1, 2); e != api.ErrNil {
			t.Errorf("Feed(%d): error %d", part, e)
		}
	}
	for _, n := range []int64{least, -1, 0, 1, greatest} {
		if e := f.Bar(n); e != api.ErrNil {
			t.Errorf("Bar(%d): error %d", n, e)
		}
	}
	for _, i := range []int{least, -1, 0, 1, greatest} {
		if f.Can(i) {
			t.Errorf("Can(%d)", i)
		}
		if did, is := f.Go(i); is || !sameWork(did, api.Work{}) {
			t.Errorf("Go(%d) = %+v, %v", i, did, is)
		}
	}
	if f.Works() != 0 || f.Idle() || f.Next() != 0 {
		t.Error(f.Works(), f.Idle(), f.Next())
	}
}

// changed is the job of chapter 18, but for one thing.
func changed(change func(j *api.Job)) api.Job {
	j := of18(2)
	change(&j)
	return j
}

// wrong are jobs that may not be.
func wrong() []api.Job {
	return []api.Job{
		{},
		{Par: 2},
		{Par: 2, Nodes: make([]api.Node, 3)},
		changed(func(j *api.Job) { j.Par = 0 }),
		changed(func(j *api.Job) { j.Par = -1 }),
		changed(func(j *api.Job) { j.Par = 5 }),
		changed(func(j *api.Job) { j.Par = greatest }),
		changed(func(j *api.Job) { j.Nodes = j.Nodes[:2] }),
		changed(func(j *api.Job) { j.Nodes = j.Nodes[1:] }),
		changed(func(j *api.Job) { j.Nodes = j.Nodes[:1] }),
		changed(func(j *api.Job) { j.Nodes[1].In = []int{1} }),
		changed(func(j *api.Job) { j.Nodes[1].In = []int{-1} }),
		changed(func(j *api.Job) { j.Nodes[1].In = nil }),
		changed(func(j *api.Job) { j.Nodes[1].X.Args = nil }),
		changed(func(j *api.Job) { j.Nodes[1].Kind = 10 }),
		changed(func(j *api.Job) { j.Nodes[2].Uid = "r" }),
		changed(func(j *api.Job) { j.Nodes[2].In = []int{0} }),
	}
}

// notLoaded are states that may not be of the job of chapter 18, and their errors.
func notLoaded() map[api.Errno][]api.State {
	fine := state("r", kept{5: cell(1)})
	return map[api.Errno][]api.State{
		api.ErrKeeps:  {fine, fine},
		api.ErrShort:  {{Uid: "r"}},
		api.ErrForm:   {{Uid: "r", Bytes: "\x00\x00"}},
		api.ErrSchema: {state("r", kept{5: cell(1, 1)})},
	}
}

// firsts and rooms are numbers at the edges of what may be.
func firsts() []int64 { return []int64{least, least + 1, -1, 0, 1, 2, greatest - 1, greatest} }

func rooms() []int {
	return []int{least, -8, -1, 0, 1, 2, 3, 4, 5, 6, 7, 8, 9, 10, 16, 1 << 32, 1<<32 + 1, greatest}
}

// TestNewEdges: P20.1: first numbers from 0 on, rooms from 1 to 8.
func TestNewEdges(t *testing.T) {
	for _, j := range []api.Job{of18(1), of18(2), shortest(4)} {
		for _, first := range firsts() {
			for _, room := range rooms() {
				if first < 0 || room < 1 || room > 8 {
					refused(t, api.ErrArg, j, nil, first, room)
					continue
				}
				b := made(t, j, nil, first, room)
				if !b.f.Idle() || b.f.Next() != first {
					t.Errorf("New(%d, %d): %v, %d", first, room, b.f.Idle(), b.f.Next())
				}
			}
		}
	}
}

// TestNewErrors: P20.1: ideal.Load's error goes ahead of that of the first number and of room.
func TestNewErrors(t *testing.T) {
	for _, first := range firsts() {
		for _, room := range rooms() {
			for _, j := range wrong() {
				refused(t, api.ErrArg, j, nil, first, room)
				refused(t, api.ErrArg, j, notLoaded()[api.ErrShort], first, room)
			}
			for want, l := range notLoaded() {
				refused(t, want, of18(2), l, first, room)
				refused(t, want, of18(2), append(slices.Clone(l), api.State{Uid: "x"}), first, room)
			}
			for _, uid := range []string{"", "s", "t", "x", "R", "r "} {
				refused(t, api.ErrKeeps, of18(2), []api.State{{Uid: uid}}, first, room)
			}
		}
	}
}

// TestWorks: P20.4: two of the first node, two of the last one, Par of all others.
func TestWorks(t *testing.T) {
	for par := 1; par <= 4; par++ {
		for more := range 11 {
			lines := []string{"n0 source"}
			for i := range more {
				lines = append(lines, "n"+string(rune('a'+i))+" map "+strings.Fields(lines[i])[0]+" : val")
			}
			j := jobOf(par, append(lines, "end sink "+strings.Fields(lines[more])[0])...)
			b := made(t, j, nil, 0, 1)
			if got := b.f.Works(); got != 4+par*more {
				t.Errorf("%s\nWorks() = %d", told(j), got)
			}
			b.bar(1)
			at := 0
			b.through(func() int { at++; return at - 1 })
			if at != b.f.Works() {
				t.Errorf("%s\n%d turns", told(j), at)
			}
		}
	}
}

// TestNumbered: node by node, in each node from 0 on.
func TestNumbered(t *testing.T) {
	b := made(t, jobOf(3, "s source", "m map s : val", "r reduce m : acc", "t sink r"), nil, 7, 1)
	b.bar(5)
	want := []place{{0, 0}, {0, 1}, {1, 0}, {1, 1}, {1, 2}, {2, 0}, {2, 1}, {2, 2}, {3, 0}, {3, 1}}
	for i, p := range want {
		did, is := b.turn(i)
		bytes := ""
		if p.node == 2 {
			bytes = "\x00"
		}
		if !is || !sameWork(did, api.Work{Kind: 2, Node: p.node, Sub: p.sub, Seq: 7, Bar: 5, Bytes: bytes}) {
			t.Errorf("Go(%d) = %+v, %v", i, did, is)
		}
	}
	if !b.f.Idle() {
		t.Error("not idle")
	}
}

// keys are some of every group.
func keys() []int64 {
	l := []int64{least, least + 1, greatest, greatest - 1}
	for key := int64(-17); key <= 17; key++ {
		l = append(l, key)
	}
	return l
}

// TestTables: P20.1 and P20.3: each work has the keys of its place, of the states that New is given; by hand for Par 3, and by the words for all.
func TestTables(t *testing.T) {
	k := kept{}
	for i, key := range keys() {
		k[key] = cell(int64(i))
	}
	for par := 1; par <= 4; par++ {
		b := made(t, of18(par), []api.State{state("r", k)}, 0, 1)
		b.bar(1)
		b.through(b.byTurns())
	}
	k = kept{}
	for key := range int64(8) {
		k[key] = cell(10 + key)
	}
	b := made(t, of18(3), []api.State{state("r", k)}, 0, 1)
	b.bar(1)
	for i, want := range []string{"", "", "\x06\x00\x14\x00\x02\x16\x00\x04\x18\x00", "\x06\x06\x1a\x00\x08\x1c\x00\x0a\x1e\x00", "\x04\x0c\x20\x00\x0e\x22\x00", "", ""} {
		if did, is := b.turn(i); !is || did.Bytes != want {
			t.Errorf("Go(%d) = %+v, %v, want %q", i, did, is, want)
		}
	}
}

// TestSomeStates: states of some nodes alone, in whatever order; a table goes to the node with its Uid, whatever stands at its place.
func TestSomeStates(t *testing.T) {
	j := jobOf(2, "s source", "a reduce s : acc + val", "b window a 2", "c reduce b : acc * 2", "t sink c")
	l := []api.State{state("c", kept{1: cell(5), 6: cell(7)}), state("a", kept{0: cell(-1)}), state("b", kept{3: cell(0, 4), 4: cell(0, 9)})}
	want := map[string][2]string{
		"a": {"\x02\x00\x01\x00", "\x00"},
		"b": {"\x02\x06\x00\x02\x08", "\x02\x08\x00\x02\x12"},
		"c": {"\x02\x02\x0a\x00", "\x02\x0c\x0e\x00"},
	}
	for _, at := range [][]int{{0, 1, 2}, {2, 1, 0}, {1, 0}, {2}, {}} {
		var some []api.State
		hold := map[string][2]string{"a": {"\x00", "\x00"}, "b": {"\x00", "\x00"}, "c": {"\x00", "\x00"}}
		for _, i := range at {
			some = append(some, l[i])
			hold[l[i].Uid] = want[l[i].Uid]
		}
		b := made(t, j, some, 3, 1)
		b.bar(9)
		for i := range b.f.Works() {
			did, is := b.turn(i)
			if got := hold[j.Nodes[did.Node].Uid][did.Sub]; !is || did.Bytes != got {
				t.Errorf("states %v: Go(%d) = %+v, want %q", at, i, did, got)
			}
		}
	}
}

// TestFullTables: a work has room for 40 keys of each group of its own.
func TestFullTables(t *testing.T) {
	k := kept{}
	for key := range int64(320) {
		k[key] = cell(key)
	}
	for par := 1; par <= 4; par++ {
		b := made(t, of18(par), []api.State{state("r", k)}, 0, 2)
		for key := range int64(16) {
			b.feed(0, 312+key, 1)
		}
		b.bar(1)
		b.through(b.byTurns())
		if b.outs[7] == nil || b.outs[8] != nil {
			t.Error(b.outs)
		}
	}
}

// TestHandedIn: R3: what is handed in is not changed, nor kept: whoever handed it in may change it later.
func TestHandedIn(t *testing.T) {
	d := dice(31)
	for range 60 {
		j := d.grown()
		l := d.states(j)
		mine, was := copied(j), slices.Clone(l)
		b := made(t, mine, l, 0, 1+d.below(8))
		if !job.Same(mine, j) {
			t.Fatal("New changed", told(j))
		}
		scribble(mine, l)
		feedSome(b, &d, 6)
		b.through(b.thrown(&d))
		mine, l = copied(j), slices.Clone(was)
		b = made(t, mine, l, 0, 1+d.below(8))
		feedSome(b, &d, 6)
		b.through(b.byTurns())
		if !job.Same(mine, j) || !slices.Equal(l, was) {
			t.Fatal("calls changed", told(j))
		}
	}
}

// scribble writes over all that can be written over.
func scribble(j api.Job, l []api.State) {
	for i := range j.Nodes {
		n := &j.Nodes[i]
		for k := range n.In {
			n.In[k] = -7
		}
		scribbleExpr(&n.X)
		*n = api.Node{Uid: "x", Kind: 77, N: -1}
	}
	for i := range l {
		l[i] = api.State{Uid: "y", Bytes: "z"}
	}
}

func scribbleExpr(x *api.Expr) {
	for i := range x.Args {
		scribbleExpr(&x.Args[i])
	}
	*x = api.Expr{Op: 99, N: 99}
}

// feedSome feeds records, and here and there a bar.
func feedSome(b *both, d *dice, most int) {
	b.t.Helper()
	for range 1 + d.below(most) {
		if d.below(4) == 0 {
			b.bar(1 + int64(d.below(3)))
			continue
		}
		key, val := d.record()
		b.feed(d.below(2), key, val)
	}
}

// TestWhateverNew: P20.1 and R1: whatever jobs, states, first numbers and rooms; the error is ideal.Load's, or ErrArg, or the flow goes on as the words tell.
func TestWhateverNew(t *testing.T) {
	d := dice(2020)
	many := map[api.Errno]int{}
	for range 6000 {
		j := d.grown()
		l := d.states(j)
		if d.below(2) == 0 {
			j = d.broken(j)
		}
		if d.below(2) == 0 {
			l = d.brokenStates(l)
		}
		first, room := int64(d.below(3)), 1+d.below(8)
		if d.below(5) == 0 {
			first, room = d.number(), int(d.number())
		}
		_, want := ideal.Load(j, l)
		if want == api.OK && (first < 0 || room < 1 || room > 8) {
			want = api.ErrArg
		}
		many[want]++
		if want != api.OK {
			refused(t, want, j, l, first, room)
			continue
		}
		b := made(t, j, l, first, room)
		feedSome(b, &d, 3)
		b.through(b.stubborn(1))
	}
	for _, e := range []api.Errno{api.OK, api.ErrArg, api.ErrKeeps, api.ErrShort, api.ErrForm, api.ErrSchema} {
		if many[e] < 10 {
			t.Errorf("error %d came %d times", e, many[e])
		}
	}
}

// broken is a job with something changed; it seldom may be.
func (d *dice) broken(j api.Job) api.Job {
	j = copied(j)
	n := &j.Nodes[d.below(len(j.Nodes))]
	switch d.below(9) {
	case 0:
		j.Par = int(d.number())
	case 1:
		n.Uid = d.word("", "n0", "end", "a b", "\xff", "z")
	case 2:
		n.Kind = uint8(d.below(12))
	case 3:
		n.In = append(n.In, d.below(14)-2)
	case 4:
		n.In = nil
	case 5:
		n.N = int(d.number())
	case 6:
		n.X = api.Expr{Op: uint8(d.below(20)), N: d.number(), Args: make([]api.Expr, d.below(4))}
	case 7:
		j.Nodes = j.Nodes[:d.below(len(j.Nodes)+1)]
	case 8:
		j.Nodes = slices.Insert(j.Nodes, d.below(len(j.Nodes)), *n)
	}
	return j
}

// brokenStates are states, one of them changed, or one more.
func (d *dice) brokenStates(l []api.State) []api.State {
	l = append(slices.Clone(l), api.State{Uid: d.word("n1", "x-2", "ä3", "n0", "end", ""), Bytes: d.word("\x00", "", "\x02\x00\x02\x00", "\x02\x00\x00\x02\x04")})
	s := &l[d.below(len(l))]
	switch d.below(5) {
	case 0:
		s.Bytes += "\x00"
	case 1:
		s.Bytes = s.Bytes[:d.below(len(s.Bytes)+1)]
	case 2:
		b := []byte(s.Bytes)
		if len(b) > 0 {
			b[d.below(len(b))] = byte(d.below(256))
		}
		s.Bytes = string(b)
	case 3:
		l = l[:len(l)-1]
	case 4:
		s.Bytes = kept{1: cell(1, 1)}.bytes()
	}
	return l
}

// TestDeepJobs: jobs with as many nodes, works, ways and readers as may be.
func TestDeepJobs(t *testing.T) {
	d := dice(12)
	for _, j := range []api.Job{
		jobOf(4, "s source", "a map s : val", "b map s : val + 1", "u union b a", "d map u : val", "e map u : -val", "v union e d", "f flat v : 2", "g flat f : 3", "w window g 3", "m map w : val - 1", "t sink m"),
		jobOf(4, "s source", "a flat s : 4", "b flat a : 4", "c key b : val", "d map c : val + 1", "e map c : key", "f map c : 1", "u union f d e", "r reduce u : acc * 3 + val", "k key r : key * 8", "w window k 2", "t sink w"),
		jobOf(1, "s source", "a key s : val", "b key s : key + 1", "u union a b s", "r reduce u : acc + val", "v union r u a", "w window v 16", "x window v 1", "y union x w b", "k key y : val", "q reduce k : acc * 2 + val", "t sink q"),
	} {
		if len(j.Nodes) != 12 {
			t.Fatal(len(j.Nodes))
		}
		for _, room := range []int{1, 8} {
			b := made(t, j, nil, 0, room)
			feedSome(b, &d, 25)
			b.through(b.firstFirst())
			feedSome(b, &d, 25)
			b.through(b.lastFirst())
		}
	}
}

// TestFits: what a bar's works tell are tables that may be their nodes', so that they may be loaded anew.
func TestFits(t *testing.T) {
	d := dice(99)
	for range 150 {
		j := d.grown()
		b := made(t, j, d.states(j), 0, 1+d.below(8))
		feedSome(b, &d, 20)
		b.bar(1)
		b.through(b.thrown(&d))
		var l []api.State
		for at, n := range j.Nodes {
			if all := b.joint[[2]int{at, len(b.bars) - 1}].all; all != nil {
				if !ideal.Fits(n, all) {
					t.Fatalf("%s\nthe tables of %s may not be its", told(j), n.Uid)
				}
				l = append(l, api.State{Uid: n.Uid, Bytes: all.Bytes()})
			}
		}
		c := made(t, j, l, b.f.Next(), 1+d.below(8))
		feedSome(c, &d, 6)
		c.through(c.thrown(&d))
	}
}
