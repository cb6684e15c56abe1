package ideal_test

import (
	"slices"
	"strings"
	"testing"

	"changeling/api"
	"changeling/expr"
	"changeling/ideal"
	"changeling/job"
	"changeling/table"
)

// several is a job with three nodes that keep something, and others.
func several() api.Job {
	return jobOf("s source", "r reduce s : acc + val", "m map r : val + 1", "w window m 3", "k key w : key % 5", "v window k 2", "u union r v", "t sink u")
}

// some is what they may keep.
func some() map[string]kept {
	return map[string]kept{
		"r": {5: cell(7), -1: cell(least), 0: cell(0)},
		"w": {5: cell(0, 1), 2: cell(0, greatest, least), least: cell(0, 0, 0)},
		"v": {1: cell(0, -9)},
	}
}

// orders are all rows of these, each once at most, of every length.
func orders(l []string) [][]string {
	all := [][]string{nil}
	for i, first := range l {
		others := slices.Delete(slices.Clone(l), i, i+1)
		for _, row := range orders(others) {
			all = append(all, append([]string{first}, row...))
		}
	}
	return all
}

// TestConstants: errors by the numbers that the document says.
func TestConstants(t *testing.T) {
	if got := [...]api.Errno{api.OK, api.ErrNil, api.ErrArg, api.ErrShort, api.ErrForm, api.ErrKeeps, api.ErrSchema}; got != [...]api.Errno{0, 1, 2, 20, 21, 180, 181} {
		t.Error(got)
	}
	if got := [...]int{api.MaxNodes, api.MaxPar, api.MaxWindow, api.MaxFlat, api.MaxKeys, api.Groups}; got != [...]int{12, 4, 16, 4, 40, 8} {
		t.Error(got)
	}
}

// TestLoadSome: P18.1: states of none, some, or all of the nodes that keep something, in whatever order; the others have empty tables.
func TestLoadSome(t *testing.T) {
	l := orders([]string{"r", "w", "v"})
	if len(l) != 16 {
		t.Fatal(l)
	}
	for _, uids := range l {
		var told []api.State
		keeps := map[string]kept{}
		for _, uid := range uids {
			told = append(told, state(uid, some()[uid]))
			keeps[uid] = some()[uid]
		}
		b := opened(t, several(), told...)
		states(t, b.d, state("r", keeps["r"]), state("w", keeps["w"]), state("v", keeps["v"]))
		for i := range int64(40) {
			b.fed(t, i%7-1, i*i)
		}
		b.tells(t)
	}
	b := opened(t, several(), state("w", some()["w"]), state("r", some()["r"]))
	b.gives(t, 5, 3, rec(8, 5, 10)) // 11 comes to the window, as its second one
	b.gives(t, 5, 3, rec(8, 5, 13)) // 1 + 11 + 14 goes on with the key 0
	b.gives(t, 2, 1, rec(8, 2, 1))  // greatest + least + 2 with the key 2
	states(t, b.d, state("r", kept{5: cell(13), -1: cell(least), 0: cell(0), 2: cell(1)}), state("w", kept{least: cell(0, 0, 0)}), state("v", kept{0: cell(0, 26), 2: cell(0, 1)}))
}

// TestLoadEmpty: P18.1: empty tables that are told are as those that are not.
func TestLoadEmpty(t *testing.T) {
	b := opened(t, several(), state("v", nil), state("r", nil))
	for i := range int64(20) {
		b.fed(t, i%3, i)
	}
	opened(t, several(), []api.State{}...)
	d, e := ideal.Load(several(), nil)
	if e != api.OK {
		t.Fatal(e)
	}
	states(t, d, state("r", nil), state("w", nil), state("v", nil))
}

// mayNot are jobs that may not be, for each of job's errors.
func mayNot() []api.Job {
	with := func(change func(j *api.Job)) api.Job {
		j := several()
		change(&j)
		return j
	}
	return []api.Job{
		{},
		{Par: 1},
		{Par: 1, Nodes: []api.Node{{Uid: "s", Kind: 1}}},
		{Par: 1, Nodes: []api.Node{{}, {}}},
		with(func(j *api.Job) { j.Par = 0 }),
		with(func(j *api.Job) { j.Par = 5 }),
		with(func(j *api.Job) { j.Par = -1 }),
		with(func(j *api.Job) { j.Nodes = nil }),
		with(func(j *api.Job) { j.Nodes = j.Nodes[1:] }),
		with(func(j *api.Job) { j.Nodes = j.Nodes[:7] }),
		with(func(j *api.Job) { j.Nodes[1].Kind = 0 }),
		with(func(j *api.Job) { j.Nodes[1].Kind = 10 }),
		with(func(j *api.Job) { j.Nodes[1].Uid = "" }),
		with(func(j *api.Job) { j.Nodes[1].Uid = "w" }),
		with(func(j *api.Job) { j.Nodes[1].N = 1 }),
		with(func(j *api.Job) { j.Nodes[1].In = []int{1} }),
		with(func(j *api.Job) { j.Nodes[1].In = []int{-1} }),
		with(func(j *api.Job) { j.Nodes[1].In = nil }),
		with(func(j *api.Job) { j.Nodes[2].X = j.Nodes[1].X }),
		with(func(j *api.Job) { j.Nodes[3].N = 17 }),
		with(func(j *api.Job) { j.Nodes[3].N = 0 }),
		with(func(j *api.Job) { j.Nodes[6].In = []int{1, 2, 4} }),
		with(func(j *api.Job) { j.Nodes = append(j.Nodes, j.Nodes[7]) }),
	}
}

// TestMayNot: P18.1: ErrArg, unless the job may be, ahead of any state's error.
func TestMayNot(t *testing.T) {
	for i, j := range mayNot() {
		if d, e := ideal.New(j); d != nil || e != api.ErrArg {
			t.Error(i, d, e)
		}
		refused(t, api.ErrArg, j)
		for _, s := range []api.State{state("r", nil), state("none", nil), state("s", nil), {Uid: "r"}, {Uid: "r", Bytes: "\x03"}, state("r", kept{1: cell(0, 1)})} {
			refused(t, api.ErrArg, j, s)
			refused(t, api.ErrArg, j, s, s)
		}
	}
}

// TestNew: P18.1: New is Load without states.
func TestNew(t *testing.T) {
	d := dice(181)
	for range 300 {
		j := d.grown()
		a, b := made(t, j), opened(t, j)
		for range 10 {
			key, val := d.record()
			if l := b.d.Feed(key, val); !slices.Equal(a.fed(t, key, val), l) {
				t.Errorf("%s: %v", told(j), l)
			}
		}
		states(t, b.d, a.tells(t)...)
	}
}

// TestKeeps: P18.1: a Uid that no node has, that one has which keeps nothing, and that a state ahead has.
func TestKeeps(t *testing.T) {
	j := several()
	good := state("w", some()["w"])
	for _, uid := range []string{"", "x", "R", "r ", " r", "rr", "r\x00", "\xff", strings.Repeat("r", 1<<16), "s", "m", "k", "u", "t"} {
		for _, b := range []string{"\x00", "", "\x01", "\x02\x00\x00\x00", state("r", some()["r"]).Bytes} {
			bad := api.State{Uid: uid, Bytes: b}
			refused(t, api.ErrKeeps, j, bad)
			refused(t, api.ErrKeeps, j, good, bad)
			refused(t, api.ErrKeeps, j, bad, good)
			refused(t, api.ErrKeeps, j, state("r", nil), good, state("v", nil), bad)
		}
	}
	for _, uid := range []string{"r", "w", "v"} {
		first, empty := state(uid, some()[uid]), state(uid, nil)
		refused(t, api.ErrKeeps, j, first, first)
		refused(t, api.ErrKeeps, j, empty, first)
		refused(t, api.ErrKeeps, j, first, empty)
		refused(t, api.ErrKeeps, j, empty, empty)
		refused(t, api.ErrKeeps, j, empty, api.State{Uid: uid})
		refused(t, api.ErrKeeps, j, state("r", nil), state("w", nil), state("v", nil), first)
	}
	refused(t, api.ErrKeeps, jobOf("s source", "t sink s"), state("s", nil))
}

// TestEachKindKeeps: P18.1: of nodes of each kind: reduce and window keep something, no other one.
func TestEachKindKeeps(t *testing.T) {
	j := jobOf("s source", "m map s : val", "f filter m : 1 = 1", "g flat f : 1", "k key g : key", "r reduce k : acc", "w window r 2", "u union w k", "t sink u")
	for i, uid := range []string{"s", "m", "f", "g", "k", "r", "w", "u", "t"} {
		if i == 5 || i == 6 {
			opened(t, j, state(uid, nil))
		} else {
			refused(t, api.ErrKeeps, j, state(uid, nil))
		}
	}
}

// TestTakes: P18.1: bytes that are no table's: table.Take's own errors.
func TestTakes(t *testing.T) {
	j := several()
	for b, want := range map[string]api.Errno{
		"":                             api.ErrShort,
		"\x80":                         api.ErrShort,
		"\x02":                         api.ErrShort,
		"\x02\x0a\x0e":                 api.ErrShort,
		"\x02\x0a\x00\x02":             api.ErrShort,
		"\x01":                         api.ErrForm, // -1 keys
		"\x80\x00":                     api.ErrForm,
		"\x82\x05":                     api.ErrForm, // 321 keys
		"\x00\x00":                     api.ErrForm,
		"\x02\x0a\x00\x22":             api.ErrForm, // 17 numbers
		"\x02\x0a\x00\x01":             api.ErrForm,
		"\x04\x10\x0e\x00\x00\x0e\x00": api.ErrForm, // 0 behind 8
		"\x04\x0a\x0e\x00\x0a\x0e\x00": api.ErrForm,
	} {
		for _, uid := range []string{"r", "w", "v"} {
			bad := api.State{Uid: uid, Bytes: b}
			refused(t, want, j, bad)
			for _, other := range []string{"r", "w", "v"} {
				if other != uid {
					refused(t, want, j, state(other, some()[other]), bad)
					refused(t, want, j, bad, state(other, some()[other]))
				}
			}
		}
	}
}

// TestSchema: P18.1: bytes of a table that may not be the node's.
func TestSchema(t *testing.T) {
	j := several()
	for uid, l := range map[string][]kept{
		"r": {{5: cell(0, 0)}, {5: cell(3, 1, 2)}, {0: cell(1), 8: cell(2), 1: cell(3, 0)}, {0: cell(0, 1), 8: cell(2), 1: cell(3)}, some()["w"], some()["v"]},
		"w": {{5: cell(1, 1)}, {5: cell(0)}, {5: cell(0, 1, 2, 3)}, {5: cell(0, 1, 2, 3, 4)}, {5: cell(-1)}, {0: cell(0, 1), 1: cell(0, 1), 2: cell(least, 1)}, {0: cell(0), 1: cell(0, 1)}, some()["r"]},
		"v": {{5: cell(0, 1, 2)}, some()["w"], some()["r"]},
	} {
		for _, k := range l {
			refused(t, api.ErrSchema, j, state(uid, k))
			for _, other := range []string{"r", "w", "v"} {
				if other != uid {
					refused(t, api.ErrSchema, j, state(other, some()[other]), state(uid, k))
					refused(t, api.ErrSchema, j, state(uid, k), state(other, some()[other]))
				}
			}
		}
	}
	opened(t, j, state("w", some()["v"]))
}

// TestFirst: P18.1: of several errors the first state's, and of one state the first one.
func TestFirst(t *testing.T) {
	j := several()
	bad := map[api.Errno]api.State{
		api.ErrKeeps:  {Uid: "m", Bytes: "\x00"},
		api.ErrShort:  {Uid: "w", Bytes: "\x02"},
		api.ErrForm:   {Uid: "r", Bytes: "\x01"},
		api.ErrSchema: state("v", kept{1: cell(1, 1)}),
	}
	for first, a := range bad {
		for second, b := range bad {
			if first != second {
				refused(t, first, j, a, b)
			}
			for third, c := range bad {
				if first != second && first != third && second != third {
					refused(t, first, j, a, b, c)
				}
			}
		}
	}
	refused(t, api.ErrKeeps, j, api.State{Uid: "m"})
	refused(t, api.ErrKeeps, j, state("m", kept{1: cell(1, 1)}))
	refused(t, api.ErrKeeps, j, state("r", nil), state("r", kept{1: cell(1, 1)}))
	refused(t, api.ErrForm, j, api.State{Uid: "r", Bytes: state("r", kept{1: cell(1, 1)}).Bytes + "\x00"})
	refused(t, api.ErrShort, j, api.State{Uid: "w", Bytes: "\x04\x0a\x02\x00"}) // a cell that may not be, and then too few
}

// asks asks Fits; what is handed in stays as it is.
func asks(t *testing.T, n api.Node, k kept, want bool) {
	t.Helper()
	tb := k.table(t)
	before := tb.Bytes()
	if is := ideal.Fits(n, tb); is != want || k.may(n) != want {
		t.Errorf("Fits(kind %d, N %d, %v) = %v, want %v", n.Kind, n.N, k, is, want)
	}
	if tb.Bytes() != before {
		t.Errorf("% x became % x", before, tb.Bytes())
	}
}

// nodeOf is one of a kind, with as much else as a window has.
func nodeOf(kind uint8, most int) api.Node {
	return api.Node{Uid: "n", Kind: kind, In: []int{0}, N: most}
}

// TestFitsReduce: P18.1: no cell has an L.
func TestFitsReduce(t *testing.T) {
	for _, most := range []int{0, 1, 5, -1, least, greatest} {
		n := nodeOf(6, most)
		asks(t, n, kept{}, true)
		asks(t, n, kept{5: cell(0)}, true)
		asks(t, n, kept{5: cell(greatest), -1: cell(least), 0: cell(1)}, true)
		asks(t, n, fullOf(cell(-1), allGroups()...), true)
		asks(t, n, kept{5: cell(0, 0)}, false)
		asks(t, n, kept{5: cell(1, 2, 3)}, false)
		asks(t, n, kept{5: cell(1, make([]int64, 16)...)}, false)
		for _, key := range fullOf(cell(0), allGroups()...).inOrder() { // one cell, wherever it stands
			k := fullOf(cell(-1), allGroups()...)
			k[key] = cell(-1, 0)
			asks(t, n, k, false)
		}
	}
}

// TestFitsWindow: P18.1: each cell has an Acc of 0, and an L of at least one and fewer than N numbers.
func TestFitsWindow(t *testing.T) {
	for _, most := range []int{least, -17, -1, 0, 1, 2, 3, 8, 15, 16, 17, 18, 100, greatest} {
		n := nodeOf(7, most)
		asks(t, n, kept{}, true)
		for length := range 17 {
			l := make([]int64, length)
			want := length > 0 && length < most
			asks(t, n, kept{5: cell(0, l...)}, want)
			asks(t, n, fullOf(cell(0, l...), allGroups()...), want)
			for _, acc := range []int64{1, -1, 256, 1 << 32, least, greatest} {
				asks(t, n, kept{5: cell(acc, l...)}, false)
			}
			if most < 2 {
				continue
			}
			for _, key := range []int64{0, 1, -160, 159} { // one cell ahead of others, or behind them
				k := fullOf(cell(0, 7), allGroups()...)
				k[key] = cell(0, l...)
				asks(t, n, k, want)
				k[key] = cell(1, 7)
				asks(t, n, k, false)
			}
		}
	}
}

// TestFitsOthers: P18.1: false of nil, and of a node that is not stateful, whatever the table has.
func TestFitsOthers(t *testing.T) {
	for kind := range 256 {
		for _, most := range []int{0, 1, 3, greatest} {
			n := nodeOf(uint8(kind), most)
			if ideal.Fits(n, nil) {
				t.Error(kind, most)
			}
			if kind == 6 || kind == 7 {
				continue
			}
			for _, k := range []kept{{}, {5: cell(0)}, {5: cell(3)}, {5: cell(0, 1)}, {5: cell(1, 1)}, fullOf(cell(0, 1), 3)} {
				asks(t, n, k, false)
			}
		}
	}
	if ideal.Fits(api.Node{}, nil) || ideal.Fits(api.Node{}, table.New()) {
		t.Error("a zero node")
	}
}

// TestFitsAnything: P18.1: it hangs on the node's Kind and N alone, and on the table.
func TestFitsAnything(t *testing.T) {
	d := dice(19)
	ring := api.Expr{Op: api.ExNeg, Args: make([]api.Expr, 1)}
	ring.Args[0] = ring
	x, _, _ := expr.Parse("acc + val")
	many := map[bool]int{}
	for range 20000 {
		n := api.Node{Uid: d.word("", "r", "\xff"), Kind: uint8(6 + d.below(2)), N: []int{3, 2, 16, 17, 1, int(d.number())}[d.below(6)]}
		if d.below(10) == 0 {
			n.Kind = uint8(d.below(12))
		}
		n.In = []([]int){nil, {0}, {-1, greatest}}[d.below(3)]
		n.X = []api.Expr{{}, x, ring, {Op: 99}}[d.below(4)]
		k := d.keeps(nodeOf(n.Kind, max(1, min(n.N, 16))))
		for range d.below(6) / 4 {
			k[int64(d.below(20))] = cell(d.number()*int64(d.below(2)), make([]int64, d.below(17))...)
		}
		want := k.may(n)
		asks(t, n, k, want)
		many[want]++
	}
	if many[true] < 3000 || many[false] < 3000 {
		t.Error(many)
	}
}

// TestLoadIsFits: P18.1: Load tells ErrSchema just where Fits is false.
func TestLoadIsFits(t *testing.T) {
	d := dice(20)
	many := map[bool]int{}
	for range 3000 {
		n := nodeOf(uint8(6+d.below(2)), 0)
		lines := []string{"s source", "r reduce s : acc + key", "t sink r"}
		if n.Kind == 7 {
			n.N = 1 + d.below(16)
			lines[1] = "r window s " + []string{"1", "2", "3", "4", "5", "6", "7", "8", "9", "10", "11", "12", "13", "14", "15", "16"}[n.N-1]
		}
		k := d.keeps(n)
		for range d.below(3) {
			k[int64(d.below(20))] = cell(int64(d.below(2)), make([]int64, d.below(17))...)
		}
		fits := ideal.Fits(n, k.table(t))
		_, e := ideal.Load(jobOf(lines...), []api.State{state("r", k)})
		if fits != (e == api.OK) || !fits && e != api.ErrSchema {
			t.Fatal(n, k, fits, e)
		}
		many[fits]++
	}
	if many[true] < 500 || many[false] < 500 {
		t.Error(many)
	}
}

// TestLoadAnything: P18.1, R1: states of whatever Uids and bytes, of whatever jobs.
func TestLoadAnything(t *testing.T) {
	d := dice(21)
	many := map[api.Errno]int{}
	for range 20000 {
		j := d.grown()
		l := d.states(j)
		for range d.below(3) {
			if d.below(10) == 0 {
				j.Nodes[d.below(len(j.Nodes))].N = int(d.number())
			}
			s := api.State{Uid: j.Nodes[d.below(len(j.Nodes))].Uid, Bytes: d.bytes()}
			if len(l) == 0 || d.below(3) == 0 {
				l = slices.Insert(l, d.below(len(l)+1), s)
				continue
			}
			at := d.below(len(l))
			switch d.below(5) {
			case 0:
				l[at].Uid = s.Uid
			case 1:
				l[at].Bytes = s.Bytes
			case 2:
				l[at].Bytes = d.changed(l[at].Bytes)
			case 3:
				l[at].Bytes = d.keeps(nodeOf(uint8(6+d.below(2)), 16)).bytes()
			default:
				l = slices.Insert(l, d.below(len(l)+1), l[at])
			}
		}
		b, e := loaded(t, j, l)
		many[e]++
		for range d.below(4) {
			if e == api.OK {
				key, val := d.record()
				b.fed(t, key, val)
			}
		}
	}
	for _, e := range []api.Errno{0, 2, 20, 21, 180, 181} {
		if many[e] < 300 {
			t.Error(many)
		}
	}
}

// bytes are whatever bytes, mostly such as a table may have.
func (d *dice) bytes() string {
	var l []byte
	for range d.below(9) {
		b := byte(d.below(8))
		if d.below(6) == 0 {
			b = byte(d.below(256))
		}
		l = append(l, b)
	}
	return string(l)
}

// changed has one byte changed, less or more.
func (d *dice) changed(s string) string {
	at := d.below(len(s) + 1)
	switch d.below(3) {
	case 0:
		return s[:at]
	case 1:
		return s[:at] + d.bytes() + s[at:]
	}
	if at == len(s) {
		return s + "\x00"
	}
	return s[:at] + string([]byte{s[at] ^ 1<<d.below(8)}) + s[at+1:]
}

// TestManyStates: R1: more states than there are nodes, and long bytes.
func TestManyStates(t *testing.T) {
	j := several()
	l := slices.Repeat([]api.State{state("r", some()["r"])}, 1<<16)
	if d, e := ideal.Load(j, l); d != nil || e != api.ErrKeeps {
		t.Error(d, e)
	}
	long := strings.Repeat("\x00", 1<<22)
	if d, e := ideal.Load(j, []api.State{{Uid: "r", Bytes: long}}); d != nil || e != api.ErrForm {
		t.Error(d, e)
	}
	if d, e := ideal.Load(j, []api.State{{Uid: long, Bytes: long}}); d != nil || e != api.ErrKeeps {
		t.Error(d, e)
	}
	full := opened(t, j, state("r", fullOf(cell(least), allGroups()...)), state("w", fullOf(cell(0, least, greatest), allGroups()...)), state("v", fullOf(cell(0, -1), allGroups()...)))
	for i := range int64(800) {
		full.fed(t, i-400, i)
	}
	full.tells(t)
}

// TestStrangeJobs: R1: expressions that may not be, that are shared on all levels, or have themselves in them.
func TestStrangeJobs(t *testing.T) {
	key, _, _ := expr.Parse("key")
	ring := api.Expr{Op: api.ExNeg, Args: make([]api.Expr, 1)}
	ring.Args[0] = ring
	deep, shared, small := key, key, key
	for i := range 40 {
		deep = api.Expr{Op: api.ExNeg, Args: []api.Expr{deep}}
		shared = api.Expr{Op: api.ExAdd, Args: []api.Expr{shared, shared}}
		if i < 6 {
			small = api.Expr{Op: api.ExAdd, Args: []api.Expr{small, small}}
		}
	}
	for at := range 8 {
		for _, x := range []api.Expr{ring, deep, shared, {Op: 99}, {Op: api.ExNum, N: -1}, {Op: api.ExAdd}, {Args: make([]api.Expr, 1<<16)}} {
			j := several()
			j.Nodes[at].X = x
			if _, e := job.May(j); e == api.OK {
				t.Error(at)
			}
			if d, e := ideal.New(j); d != nil || e != api.ErrArg {
				t.Error(at, d, e)
			}
			if d, e := ideal.Load(j, []api.State{{}, {}}); d != nil || e != api.ErrArg {
				t.Error(at, d, e)
			}
		}
	}
	j := several()
	j.Nodes[2].X = small
	b := made(t, j)
	b.gives(t, 3, 5, rec(8, 3, 5))
	states(t, b.d, state("r", kept{3: cell(5)}), state("w", kept{3: cell(0, 64*3)}), state("v", nil))
}
