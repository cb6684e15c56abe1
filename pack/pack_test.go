package pack_test

import (
	"encoding/hex"
	"math"
	"slices"
	"strconv"
	"strings"
	"testing"

	"changeling/api"
	"changeling/bytes"
	"changeling/job"
	"changeling/pack"
	"changeling/script"
)

// jobOf is the job whose lines these are (13).
func jobOf(t *testing.T, lines ...string) api.Job {
	t.Helper()
	j, at, e := script.Parse(strings.Join(lines, "\n"))
	if e != api.OK {
		t.Fatal(lines, at, e)
	}
	return j
}

// raw are bytes that stand in a row of items as they are.
type raw string

// row are the bytes (2) of items: of numbers, of texts, of what stands in an inner row, and raw ones.
func row(items ...any) string {
	s := ""
	for _, i := range items {
		switch i := i.(type) {
		case int:
			s += bytes.Put(int64(i))
		case string:
			s += bytes.Put(int64(len(i))) + i
		case raw:
			s += string(i)
		case []any:
			s += row(i...)
		}
	}
	return s
}

// unhex makes bytes of two digits each, to the base 16; blanks and line ends may stand between them.
func unhex(t *testing.T, s string) string {
	t.Helper()
	b, err := hex.DecodeString(strings.Join(strings.Fields(s), ""))
	if err != nil {
		t.Fatal(err)
	}
	return string(b)
}

// put asks Put of a job that may be.
func put(t *testing.T, j api.Job, want string) {
	t.Helper()
	if s, e := pack.Put(j); s != want || e != api.OK {
		t.Errorf("Put(%.900v) = % .600x, error %d, want % .600x", j, s, e, want)
	}
}

// unput asks Put of a job that may not be.
func unput(t *testing.T, j api.Job) {
	t.Helper()
	if s, e := pack.Put(j); s != "" || e != api.ErrArg {
		t.Errorf("Put(%d nodes) = % .600x, error %d, want error 2", len(j.Nodes), s, e)
	}
}

// taken asks Take of a job's bytes.
func taken(t *testing.T, s string, want api.Job) {
	t.Helper()
	if j, e := pack.Take(s); !job.Same(j, want) || e != api.OK {
		t.Errorf("Take(% .600x) = %.900v, error %d, want %.900v", s, j, e, want)
	}
}

// wrong asks Take of bytes that are no job's.
func wrong(t *testing.T, s string, want api.Errno) {
	t.Helper()
	if j, e := pack.Take(s); !job.Same(j, api.Job{}) || e != want {
		t.Errorf("Take(% .600x) = %.900v, error %d, want error %d", s, j, e, want)
	}
}

// both asks Put and Take.
func both(t *testing.T, j api.Job, s string) {
	t.Helper()
	put(t, j, s)
	taken(t, s, j)
}

// Rows of items.
var (
	none   = []any{0, 0, 0} // the zero expression's
	key    = []any{2, 0, 0}
	val    = []any{3, 0, 0}
	acc    = []any{4, 0, 0}
	source = []any{"s", 1, 0, 0, none}
)

func sink(uid string, in int) []any { return []any{uid, 9, 0, 1, in, none} }

// between are the bytes of a job of a source s, the node m whose items behind its Uid these are, and a sink t that reads it.
func between(m ...any) string {
	return row(1, 3, source, "m", m, sink("t", 1))
}

// withX are the bytes of a job with a map of an X that has these items.
func withX(x ...any) string { return between(2, 0, 1, 0, x) }

// TestExamples: the chapter's.
func TestExamples(t *testing.T) {
	j := api.Job{Par: 1, Nodes: []api.Node{{Uid: "s", Kind: api.NdSource}, {Uid: "t", Kind: api.NdSink, In: []int{0}}}}
	if s, e := pack.Put(j); len(s) != 19 || e != api.OK {
		t.Errorf("% x, error %d", s, e)
	}
	both(t, j, unhex(t, "02 04  02 73 02 00 00 00 00 00  02 74 12 00 02 00 00 00 00"))
	wrong(t, "", api.ErrShort)
	wrong(t, "\x02\x02", api.ErrShort)
}

// TestBytes: P14.1, P14.2: some jobs, and their bytes as the chapter has them.
func TestBytes(t *testing.T) {
	both(t, jobOf(t, "par 2", "s source", "m map s : val + 1", "t sink m"), unhex(t, `
		04 06
		02 73 02 00 00 00 00 00
		02 6d 04 00 02 00 0e 00 04 06 00 00 02 02 00
		02 74 12 00 02 02 00 00 00`))
	both(t, jobOf(t, "par 4", "räume-7 source", "k key räume-7 : if !(val < 64) then -key else 1000", "w window k 16", "u union w k räume-7", "t sink u"), unhex(t, `
		08 0a
		10 72 c3 a4 75 6d 65 2d 37 02 00 00 00 00 00
		02 6b 0a 00 02 00 24 00 06 0c 00 02 18 00 04 06 00 00 02 80 01 00 0a 00 02 04 00 00 02 d0 0f 00
		02 77 0e 20 02 02 00 00 00
		02 75 10 00 06 04 02 00 00 00 00
		02 74 12 00 02 06 00 00 00`))
	both(t, jobOf(t, "par 3", "in source", "f filter in : val = key & 1 != 2 | 3 <= 4", "x flat f : 9223372036854775807 - val * 2", "sum reduce x : acc / 3 % val", "out sink sum"), unhex(t, `
		06 0a
		04 69 6e 02 00 00 00 00 00
		02 66 06 00 02 00 22 00 04 20 00 04 1c 00 04 06 00 00 04 00 00 1e 00 04 02 02 00 02 04 00 1a 00 04 02 06 00 02 08 00
		02 78 08 00 02 02 10 00 04 02 fe ff ff ff ff ff ff ff ff 01 00 12 00 04 06 00 00 02 04 00
		06 73 75 6d 0c 00 02 04 16 00 04 14 00 04 08 00 00 02 06 00 06 00 00
		06 6f 75 74 12 00 02 06 00 00 00`))
	for par := 1; par <= 4; par++ {
		both(t, jobOf(t, "par "+strconv.Itoa(par), "s source", "t sink s"), row(par, 2, source, sink("t", 0)))
	}
}

// TestConstants: errors and limits by the numbers that the document says.
func TestConstants(t *testing.T) {
	wrong(t, row(1, 13), 3)
	wrong(t, row(1, 0), 2)
	wrong(t, row(1), 20)
	wrong(t, "\x80\x00", 21)
	unput(t, api.Job{})
	if api.ErrArg != 2 || api.MaxNodes != 12 || api.MaxDeep != 16 || api.MaxBytes != 65536 {
		t.Error(api.ErrArg, api.MaxNodes, api.MaxDeep, api.MaxBytes)
	}
}

// TestKinds: P14.1, P14.2: each kind's node with each X, N and In, of which few may be.
func TestKinds(t *testing.T) {
	xs := [][]any{none, {0, 0, 1, none}, {0, 1, 0}, key, val, acc, {1, 5, 0}, {1, -1, 0}, {2, 1, 0}, {12, 0, 2, key, val}, {5, 0, 1, val}, {5, 0, 1, acc}, {6, 0, 1, val}, {7, 0, 2, val, acc}, {7, 0, 1, val}, {12, 0, 2, acc, val}, {255, 0, 0}}
	mays := [][]int{ // which of these the kinds may have
		1: {0}, 2: {3, 4, 6, 10}, 3: {9}, 4: {3, 4, 6, 10}, 5: {3, 4, 6, 10}, 6: {3, 4, 5, 6, 10, 11, 13}, 7: {0}, 8: {0}, 9: {0},
	}
	ns := []int{math.MinInt, -65, -1, 0, 1, 2, 15, 16, 17, 18, 257, 1<<32 + 1, math.MaxInt}
	ins := [][]any{{0}, {1, 0}, {1, 1}, {1, 2}, {1, -1}, {1, math.MinInt}, {1, math.MaxInt}, {1, 1 << 32}, {2, 0, 0}, {2, 0, 1}, {2, -1, 0}, {12, 0, 1, 2, 3, 4, 5, 6, 7, 8, 9, 10, 11}}
	for kind, may := range mays {
		many := 0
		for i, x := range xs {
			for _, n := range ns {
				for _, in := range ins {
					s := between(kind, n, in, x)
					numbered := n == 0 && kind != 7 || 1 <= n && n <= 16 && kind == 7
					if 2 <= kind && kind <= 7 && slices.Contains(may, i) && numbered && row(in) == row(1, 0) {
						many++
						both(t, api.Job{Par: 1, Nodes: []api.Node{{Uid: "s", Kind: 1}, {Uid: "m", Kind: uint8(kind), N: n, In: []int{0}, X: exprOf(x)}, {Uid: "t", Kind: 9, In: []int{1}}}}, s)
					} else {
						wrong(t, s, api.ErrArg)
					}
				}
			}
		}
		if want := []int{0, 0, 4, 1, 4, 4, 7, 4, 0, 0}[kind]; many != want {
			t.Error(kind, many)
		}
	}
}

// exprOf is the expression of these items.
func exprOf(items []any) api.Expr {
	x := api.Expr{Op: uint8(items[0].(int)), N: int64(items[1].(int))}
	for _, a := range items[3:] {
		x.Args = append(x.Args, exprOf(a.([]any)))
	}
	return x
}

// TestEnds: P14.1, P14.2: the first node, a union, the last node, with what they may have, and with each thing that they must not have.
func TestEnds(t *testing.T) {
	m := []any{"m", 2, 0, 1, 0, val}
	lines := []string{"par 2", "s source", "m map s : val", "u union s m", "t sink u"}
	both(t, jobOf(t, lines...), row(2, 4, source, m, "u", 8, 0, 2, 0, 1, none, sink("t", 2)))
	lines[3] = "u union m s"
	both(t, jobOf(t, lines...), row(2, 4, source, m, "u", 8, 0, 2, 1, 0, none, sink("t", 2)))
	lines = []string{"par 2", "s source", "m map s : val", "n map s : val", "u union n s m", "t sink u"}
	both(t, jobOf(t, lines...), row(2, 5, source, m, "n", m[1:], "u", 8, 0, 3, 2, 0, 1, none, sink("t", 3)))
	for _, bad := range [][]any{
		{"s", 1, 1, 0, none}, {"s", 1, -1, 0, none}, {"s", 1, 0, 1, 0, none}, {"s", 1, 0, 1, 1, none}, {"s", 1, 0, 0, val}, {"s", 1, 0, 0, 0, 1, 0}, {"s", 1, 0, 0, 0, 0, 1, none}, {"s", 2, 0, 0, val}, {"s", 7, 1, 0, none}, {"s", 8, 0, 0, none}, {"s", 9, 0, 0, none}, {"s", 0, 0, 0, none},
		{"", 1, 0, 0, none}, {"7", 1, 0, 0, none}, {"m", 1, 0, 0, none}, {"t", 1, 0, 0, none}, {"s\n", 1, 0, 0, none}, {"\xff", 1, 0, 0, none},
	} {
		wrong(t, row(1, 3, bad, m, sink("t", 1)), api.ErrArg)
	}
	for _, bad := range [][]any{
		{"t", 9, 1, 1, 1, none}, {"t", 9, 0, 0, none}, {"t", 9, 0, 1, 0, none}, {"t", 9, 0, 1, 2, none}, {"t", 9, 0, 1, -1, none}, {"t", 9, 0, 2, 0, 1, none}, {"t", 9, 0, 1, 1, val}, {"t", 9, 0, 1, 1, 0, 1, 0}, {"t", 9, 0, 1, 1, 0, 0, 1, none},
		{"t", 2, 0, 1, 1, val}, {"t", 7, 1, 1, 1, none}, {"t", 8, 0, 2, 0, 1, none}, {"t", 1, 0, 0, none}, {"t", 0, 0, 1, 1, none}, {"t", 10, 0, 1, 1, none},
		{"", 9, 0, 1, 1, none}, {"s", 9, 0, 1, 1, none}, {"m", 9, 0, 1, 1, none}, {strings.Repeat("t", 25), 9, 0, 1, 1, none},
	} {
		wrong(t, row(1, 3, source, m, bad), api.ErrArg)
	}
	for _, bad := range [][]any{{0, 0}, {0, 1, 0}, {0, 1, 1}, {0, 2, 0, 0}, {0, 2, 1, 1}, {0, 2, 0, 2}, {0, 2, 0, 3}, {0, 2, 0, -1}, {0, 3, 0, 1, 1}, {0, 4, 0, 1, 0, 1}, {1, 2, 0, 1}, {-1, 2, 0, 1}} {
		wrong(t, row(2, 4, source, m, "u", 8, bad, none, sink("t", 2)), api.ErrArg)
	}
	wrong(t, row(2, 4, source, m, "u", 8, 0, 2, 0, 1, val, sink("t", 2)), api.ErrArg)
	for _, par := range []int{math.MinInt, -1, 0, 5, 6, 257, 1<<32 + 1, math.MaxInt} {
		wrong(t, row(par, 2, source, sink("t", 0)), api.ErrArg)
	}
}

// TestLongest: P14.1, P14.2: as many nodes as may be, with the longest names and the greatest numbers.
func TestLongest(t *testing.T) {
	uid := func(at int) string { return strings.Repeat("\U0010ffff", 23) + string(rune('a'+at)) }
	lines, s := []string{"par 4", uid(0) + " source"}, row(4, 12, uid(0), 1, 0, 0, none)
	for at := 1; at <= 10; at++ {
		lines = append(lines, uid(at)+" map "+uid(at-1)+" : 9223372036854775807 - -9223372036854775807")
		s += row(uid(at), 2, 0, 1, at-1, 8, 0, 2, 1, math.MaxInt64, 0, 5, 0, 1, 1, math.MaxInt64, 0)
	}
	both(t, jobOf(t, append(lines, uid(11)+" sink "+uid(10))...), s+row(sink(uid(11), 10)...))
}

// TestMaxNodes: P14.2: how many nodes there would be.
func TestMaxNodes(t *testing.T) {
	for _, many := range []int{math.MinInt, -1 << 32, -100, -12, -2, -1, 13, 14, 255, 256, 1<<16 + 2, 1 << 31, 1<<32 + 2, math.MaxInt} {
		wrong(t, row(1, many), api.ErrLong)
		wrong(t, row(1, many, source, sink("t", 0)), api.ErrLong)
		wrong(t, row(99, many, raw("\x80\x00")), api.ErrLong)
	}
	for many := range 13 {
		wrong(t, row(1, many), []api.Errno{api.ErrArg, api.ErrShort}[min(many, 1)])
		wrong(t, row(1, many, raw("\x80\x00")), []api.Errno{api.ErrArg, api.ErrForm}[min(many, 1)])
		s, lines := row(1, many), []string{"par 1"}
		uid := func(at int) string { return "n" + strconv.Itoa(at) }
		for at := range many {
			switch at {
			case 0:
				s += row(uid(at), 1, 0, 0, none)
				lines = append(lines, uid(at)+" source")
			case many - 1:
				s += row(sink(uid(at), at-1)...)
				lines = append(lines, uid(at)+" sink "+uid(at-1))
			default:
				s += row(uid(at), 2, 0, 1, at-1, key)
				lines = append(lines, uid(at)+" map "+uid(at-1)+" : key")
			}
		}
		if many < 2 {
			wrong(t, s, api.ErrArg)
			continue
		}
		both(t, jobOf(t, lines...), s)
		wrong(t, row(1, many+1)+s[2:], []api.Errno{api.ErrShort, api.ErrLong}[many/12])
		wrong(t, row(1, many-1)+s[2:], api.ErrArg)
	}
}

// TestMaxIn: P14.2: how many In a node would have.
func TestMaxIn(t *testing.T) {
	for kind := range 256 {
		for _, many := range []int{math.MinInt, -1 << 32, -100, -2, -1, 13, 14, 256, 1 << 31, 1<<32 + 1, math.MaxInt} {
			wrong(t, between(kind, 0, many), api.ErrLong)
			wrong(t, row(1, 3, source, "m", kind, 0, many), api.ErrLong)
			wrong(t, row(1, 3, source, "m", kind, 0, many, raw("\x80\x00")), api.ErrLong)
		}
		for many := range 13 {
			in := make([]any, many)
			for i := range in {
				in[i] = i
			}
			s := row(1, 3, source, "m", kind, 0, many)
			wrong(t, s, api.ErrShort)
			wrong(t, s+row(in...), api.ErrShort)
			wrong(t, s+row(in...)+"\x80\x00", api.ErrForm)
			if many > 0 {
				wrong(t, s+row(in[1:]...)+"\x80\x00", api.ErrForm)
				wrong(t, s+row(in[1:]...), api.ErrShort)
			}
			if many != 1 {
				wrong(t, s+row(in...)+row(val, sink("t", 1)), api.ErrArg)
			}
		}
	}
	// a source, and a sink, of many
	for many := 2; many <= 12; many++ {
		in := slices.Repeat([]any{0}, many)
		wrong(t, row(1, 2, "s", 1, 0, many, in, none, sink("t", 0)), api.ErrArg)
		wrong(t, row(1, 2, source, "t", 9, 0, many, in, none), api.ErrArg)
		wrong(t, row(1, 2, source, "t", 9, 0, many, in), api.ErrShort)
	}
	wrong(t, row(1, 2, "s", 1, 0, 13), api.ErrLong)
	wrong(t, row(1, 2, source, "t", 9, 0, 13), api.ErrLong)
}

// TestMaxArgs: P14.2: how many Args an expression would have, of each Op.
func TestMaxArgs(t *testing.T) {
	for op := range 256 {
		for _, many := range []int{math.MinInt, -1 << 32, -100, -4, -3, -2, -1, 4, 5, 16, 17, 256, 1 << 31, 1<<32 + 1, math.MaxInt} {
			wrong(t, withX(op, 0, many), api.ErrLong)
			wrong(t, row(1, 3, source, "m", 2, 0, 1, 0, op, 0, many), api.ErrLong)
			wrong(t, row(1, 3, source, "m", 2, 0, 1, 0, op, 0, many, raw("\x80\x00")), api.ErrLong)
			wrong(t, withX(7, 0, 2, key, op, 0, many), api.ErrLong)
			wrong(t, row(1, 1, "s", 1, 0, 0, op, 0, many), api.ErrLong)
		}
		for many := range 4 {
			s := row(1, 3, source, "m", 2, 0, 1, 0, op, 0, many)
			args := row(slices.Repeat([]any{val}, many)...)
			end := row(sink("t", 1)...)
			wrong(t, s, api.ErrShort)
			wrong(t, s+args, api.ErrShort)
			wrong(t, s+args+"\x80\x00", api.ErrForm)
			want := -1 // of how many Args it is, where val will do
			switch {
			case op == 1 || op == 2 || op == 3:
				want = 0
			case op == 5:
				want = 1
			case 7 <= op && op <= 11:
				want = 2
			}
			if many == want {
				if j, e := pack.Take(s + args + end); e != api.OK || len(j.Nodes[1].X.Args) != many || j.Nodes[1].X.Op != uint8(op) {
					t.Error(op, many, j, e)
				}
			} else {
				wrong(t, s+args+end, api.ErrArg)
			}
		}
	}
	taken(t, withX(18, 0, 3, 12, 0, 2, key, val, key, val), jobOf(t, "par 1", "s source", "m map s : if key < val then key else val", "t sink m"))
	wrong(t, withX(18, 0, 4, 12, 0, 2, key, val, key, val, val), api.ErrLong)
}

// nested is an expression of so many levels, where each one but the last has that Op, and so many Args, one of them, at, with further levels; its last level has these items.
func nested(levels, op, many, at int, last ...any) []any {
	if levels == 1 {
		return last
	}
	l := []any{op, 0, many}
	for i := range many {
		if i == at {
			l = append(l, nested(levels-1, op, many, at, last...))
		} else {
			l = append(l, val)
		}
	}
	return l
}

// TestDeep: P14.2: expressions of few and of many levels: of MaxDeep ones they may be, of one more the job may not be, beyond there is no reading.
func TestDeep(t *testing.T) {
	deep := func(levels int) string { return strings.Repeat("-", levels-1) + "val" }
	for levels := 1; levels <= 16; levels++ {
		both(t, jobOf(t, "par 1", "s source", "m map s : "+deep(levels), "t sink m"), withX(nested(levels, 5, 1, 0, val)...))
		wrong(t, withX(nested(levels, 5, 1, 0, 4, 0, 0)...), api.ErrArg) // acc
		wrong(t, withX(nested(levels, 5, 1, 0, 7, 0, 4)...), api.ErrLong)
		wrong(t, withX(nested(levels, 5, 1, 0, 7, 0, -1)...), api.ErrLong)
		wrong(t, withX(nested(levels, 5, 1, 0, 7, 0, 3, raw("\x80\x00"))...), api.ErrForm)
	}
	for many := 1; many <= 3; many++ {
		op := []int{0, 5, 7, 18}[many]
		for at := range many {
			if many < 3 {
				if _, e := pack.Take(withX(nested(16, op, many, at, val)...)); e != api.OK {
					t.Error(many, at, e)
				}
			}
			wrong(t, withX(nested(17, op, many, at, val)...), api.ErrArg)
			wrong(t, withX(nested(17, op, many, at, 0, 0, 0)...), api.ErrArg)
			wrong(t, withX(nested(18, op, many, at, val)...), api.ErrLong)
			wrong(t, withX(nested(18, op, many, at, raw("\x80\x00"))...), api.ErrLong)
			wrong(t, withX(nested(19, op, many, at, val)...), api.ErrLong)
			wrong(t, withX(nested(400, op, many, at, val)...), api.ErrLong)
			for args := -1; args <= 4; args++ {
				ahead, _, _ := strings.Cut(withX(nested(17, op, many, at, raw("@"))...), "@")
				want := api.ErrLong
				if args == 0 {
					want = api.ErrShort
				}
				wrong(t, ahead+row(3, 0, args), want)
				wrong(t, ahead+row(255, -7, args), want)
				wrong(t, ahead+row(256, 0, args), api.ErrArg)
				wrong(t, ahead+row(3), api.ErrShort)
			}
		}
	}
	for _, r := range []struct { // of each node: also where no expression is asked for
		ahead string
		e     api.Errno // where it may be read
	}{
		{row(1, 2, "s", 1, 0, 0), api.ErrShort}, {row(1, 3, source, "w", 7, 3, 1, 0), api.ErrShort}, {row(1, 2, source, "t", 9, 0, 1, 0), api.ErrArg},
	} {
		wrong(t, r.ahead+row(nested(16, 5, 1, 0, val)...), r.e)
		wrong(t, r.ahead+row(nested(17, 5, 1, 0, val)...), r.e)
		wrong(t, r.ahead+row(nested(18, 5, 1, 0, val)...), api.ErrLong)
	}
}

// TestKindAndOp: P14.2: each has a byte's numbers; others are told where they stand.
func TestKindAndOp(t *testing.T) {
	for _, n := range []int{math.MinInt, -257, -256, -255, -3, -2, -1, 256, 257, 258, 259, 300, 511, 512, 1<<16 + 3, 1<<32 + 2, 1<<32 + 3, math.MaxInt} {
		for _, end := range []string{"", "\x80\x00", row(0, 1, 0, val, sink("t", 1)), row(0, 99)} {
			wrong(t, row(1, 3, source, "m", n)+end, api.ErrArg)
			wrong(t, row(1, 3, "s", n)+end, api.ErrArg)
			wrong(t, row(1, 3, source, "m", 2, 0, 1, 0, n)+end, api.ErrArg)
			wrong(t, row(1, 3, source, "m", 2, 0, 1, 0, 7, 0, 2, val, n)+end, api.ErrArg)
			wrong(t, row(1, 1, "s", 1, 0, 0, n)+end, api.ErrArg)
		}
	}
	for n := range 256 {
		for _, ahead := range []string{row(1, 3, source, "m", n), row(1, 3, "s", n), row(1, 3, source, "m", 2, 0, 1, 0, n), row(1, 3, source, "m", 2, 0, 1, 0, 7, 0, 2, val, n), row(1, 1, "s", 1, 0, 0, n)} {
			wrong(t, ahead, api.ErrShort)
			wrong(t, ahead+"\x80\x00", api.ErrForm)
			wrong(t, ahead+row(0, 99), api.ErrLong)
		}
		if n != 2 && n != 4 && n != 5 && n != 6 {
			wrong(t, between(n, 0, 1, 0, val), api.ErrArg)
		}
		if n < 1 || n > 3 {
			wrong(t, withX(n, 0, 0), api.ErrArg)
		}
	}
}

// TestNumbers: P14.1, P14.2: numbers of each length.
func TestNumbers(t *testing.T) {
	for bits := range 63 {
		for _, n := range []int64{1<<bits - 1, 1 << bits, 1<<bits + 1} {
			if bits == 62 && n > 1<<62 {
				n = math.MaxInt64
			}
			line := "m map s : " + strconv.FormatInt(n, 10)
			both(t, jobOf(t, "par 1", "s source", line, "t sink m"), withX(1, int(n), 0))
			wrong(t, withX(1, int(-1-n), 0), api.ErrArg)
			if n > 0 {
				wrong(t, withX(3, int(n), 0), api.ErrArg)
			}
			if n > 16 {
				wrong(t, row(int(n), 2, source, sink("t", 0)), api.ErrArg)
				wrong(t, row(1, 2, source, sink("t", int(n))), api.ErrArg)
				wrong(t, between(7, int(n), 1, 0, none), api.ErrArg)
				wrong(t, row(int(-n), 2, source, sink("t", 0)), api.ErrArg)
				wrong(t, row(1, 2, source, sink("t", int(-n))), api.ErrArg)
				wrong(t, between(7, int(-n), 1, 0, none), api.ErrArg)
			}
		}
	}
	for _, n := range []int{-2, -1, 0, 5, 6, 100} {
		wrong(t, row(n, 2, source, sink("t", 0)), api.ErrArg)
		wrong(t, row(n, 2, source, sink("t", 0), 0), api.ErrArg)
		wrong(t, row(n, 2, source), api.ErrShort)
	}
}

// parts has the items of a job, one a place, so that each may be exchanged.
func parts() []any {
	return []any{3, 4, "s", 1, 0, 0, 0, 0, 0, "m", 2, 0, 1, 0, 7, 0, 2, 3, 0, 0, 1, 100, 0, "u", 8, 0, 2, 1, 0, 0, 0, 0, "t", 9, 0, 1, 2, 0, 0, 0}
}

// TestNoNumbers: P14.2: at each place numbers that are none: bytes are lacking, it is too long, it ends by a 0.
func TestNoNumbers(t *testing.T) {
	whole := jobOf(t, "par 3", "s source", "m map s : val + 100", "u union m s", "t sink u")
	both(t, whole, row(parts()...))
	for at, item := range parts() {
		for _, r := range []struct {
			b string
			e api.Errno
		}{
			{"", api.ErrShort}, {"\x80", api.ErrShort}, {"\xff", api.ErrShort}, {strings.Repeat("\x80", 9), api.ErrShort}, {strings.Repeat("\xff", 9), api.ErrShort},
			{"\x80\x00", api.ErrForm}, {"\xff\x00", api.ErrForm}, {strings.Repeat("\xff", 9) + "\x00", api.ErrForm}, {strings.Repeat("\xff", 9) + "\x02", api.ErrForm}, {strings.Repeat("\x80", 9) + "\x80", api.ErrForm}, {strings.Repeat("\xff", 10), api.ErrForm}, {strings.Repeat("\xff", 99), api.ErrForm},
		} {
			l := parts()
			ahead := row(l[:at]...)
			wrong(t, ahead+r.b, r.e)
			l[at] = raw(r.b)
			if r.e == api.ErrForm {
				wrong(t, row(l...), r.e)
				wrong(t, ahead+r.b+row(1, 2, 3), r.e)
			}
			if n, ok := item.(int); ok && n < 128 { // the number's own bytes, but not in the one form
				form := row(n)
				last := len(form) - 1
				l[at] = raw(form[:last] + string([]byte{form[last] | 0x80, 0}))
				wrong(t, row(l...), api.ErrForm)
				l[at] = raw(form[:last] + string([]byte{form[last] | 0x80, 0x80, 0}))
				wrong(t, row(l...), api.ErrForm)
			}
		}
	}
}

// TestTexts: P14.2: texts that are none, as a Uid.
func TestTexts(t *testing.T) {
	for _, ahead := range []string{row(1, 2), row(1, 2, source), row(7, 12), row(1, 2, "", 0, 0, 0, 0, 0, 0)} {
		for _, many := range []int{-1, -2, -64, -65, math.MinInt} {
			wrong(t, ahead+row(many), api.ErrForm)
			wrong(t, ahead+row(many)+strings.Repeat("x", 100), api.ErrForm)
		}
		for _, many := range []int{65537, 65538, 1 << 20, 1 << 31, 1<<32 + 1, math.MaxInt} {
			wrong(t, ahead+row(many), api.ErrLong)
			wrong(t, ahead+row(many)+strings.Repeat("x", 70000), api.ErrLong)
		}
		for _, many := range []int{1, 2, 24, 25, 96, 97, 63, 64, 65535, 65536} {
			wrong(t, ahead+row(many), api.ErrShort)
			wrong(t, ahead+row(many)+strings.Repeat("x", many-1), api.ErrShort)
			wrong(t, ahead+row(many)+strings.Repeat("x", many), api.ErrShort)
			wrong(t, ahead+row(many)+strings.Repeat("\xff", many), api.ErrShort)
			wrong(t, ahead+row(many)+strings.Repeat("x", many)+row(256), api.ErrArg)
			wrong(t, ahead+row(many)+strings.Repeat("x", many)+row(2, 0, 13), api.ErrLong)
			wrong(t, ahead+row(many)+strings.Repeat("\xff", many)+row(2, 0, 13), api.ErrLong)
		}
		wrong(t, ahead+row("")+row(256), api.ErrArg)
		wrong(t, ahead+row(""), api.ErrShort)
	}
	for _, uid := range []string{"", "7", "-", "a b", "a\x00", "a\n", "\xff", "a\xc3", "\ufffd", "a:", "#", strings.Repeat("a", 25), strings.Repeat("ö", 25), strings.Repeat("a", 65536)} { // texts, but no names
		wrong(t, row(1, 2, uid, 1, 0, 0, none, sink("t", 0)), api.ErrArg)
		wrong(t, row(1, 2, source, sink(uid, 0)), api.ErrArg)
		wrong(t, row(1, 2, source, sink(uid, 0)[:4]), api.ErrShort)
		unput(t, api.Job{Par: 1, Nodes: []api.Node{{Uid: uid, Kind: 1}, {Uid: "t", Kind: 9, In: []int{0}}}})
	}
	for _, uid := range []string{"a", "ä", "Z-9", "s-s", "\u00c0", strings.Repeat("a", 24), strings.Repeat("ö", 24), strings.Repeat("\U0010ffff", 24)} {
		both(t, jobOf(t, "par 1", uid+" source", "t sink "+uid), row(1, 2, uid, 1, 0, 0, none, sink("t", 0)))
	}
}

// TestLeft: P14.2: bytes that are left behind a job's.
func TestLeft(t *testing.T) {
	small := row(1, 2, source, sink("t", 0))
	for _, s := range []string{small, row(parts()...), withX(key...)} {
		if _, e := pack.Take(s); e != api.OK {
			t.Fatal(e)
		}
		for b := range 256 {
			wrong(t, s+string([]byte{byte(b)}), api.ErrArg)
		}
		for _, left := range []string{"\x80\x00", "\x00\x00\x00", strings.Repeat("\xff", 20), s, small, "left", strings.Repeat("\x00", 1<<20)} {
			wrong(t, s+left, api.ErrArg)
		}
	}
	wrong(t, row(1, 0, 0), api.ErrArg)
	wrong(t, row(1, 0, raw("\x80")), api.ErrArg)
	wrong(t, row(0, 2, source, sink("t", 0), raw("\x80")), api.ErrArg)
}

// TestBeginnings: P14.2: each beginning of a job's bytes is too short.
func TestBeginnings(t *testing.T) {
	for _, s := range []string{row(1, 2, source, sink("t", 0)), row(parts()...), withX(key...), withX(nested(16, 5, 1, 0, val)...), withX(1, math.MaxInt64, 0), row(1, 2, strings.Repeat("ö", 24), 1, 0, 0, none, sink("t", 0)), between(7, 16, 1, 0, none)} {
		if _, e := pack.Take(s); e != api.OK {
			t.Fatal(e)
		}
		for at := range len(s) {
			wrong(t, s[:at], api.ErrShort)
		}
	}
}

// TestOrder: P14.2: of several errors the one that stands first, from the left; those of the whole at the end.
func TestOrder(t *testing.T) {
	form, long, arg := "\x80\x00", row(13), row(256)
	faults := []struct {
		b string // at a place of a node's Uid, of its Kind, of how many In it has
		e [3]api.Errno
	}{
		{form, [3]api.Errno{api.ErrForm, api.ErrForm, api.ErrForm}},
		{row(-1), [3]api.Errno{api.ErrForm, api.ErrArg, api.ErrLong}},
		{row(65537), [3]api.Errno{api.ErrLong, api.ErrArg, api.ErrLong}},
	}
	for _, a := range faults {
		for _, b := range append(faults, faults[0]) {
			for _, c := range append(faults, faults[1]) {
				for _, par := range []int{0, 1, 5} { // of the whole
					wrong(t, row(par, 3, source)+a.b+b.b+row(0)+c.b, a.e[0])
					wrong(t, row(par, 3, source, "s")+b.b+row(0)+c.b, b.e[1])
					wrong(t, row(par, 3, source, "s", 77)+a.b+c.b, map[bool]api.Errno{true: api.ErrForm, false: c.e[2]}[a.b == form])
					wrong(t, row(par, 3, source, "s", 77, 99)+c.b+a.b, c.e[2])
					wrong(t, row(par, 3, source, "s", 77, 99, 2, -5)+a.b, map[bool]api.Errno{true: api.ErrForm, false: api.ErrShort}[a.b == form])
				}
			}
		}
	}
	// an expression's Op, N, how many Args; and behind it
	for _, r := range []struct {
		x string
		e api.Errno
	}{
		{arg + form + long, api.ErrArg}, {row(-1) + form, api.ErrArg}, {arg, api.ErrArg},
		{row(99) + form + long, api.ErrForm}, {row(99, -5) + long + form, api.ErrLong}, {row(99, -5) + row(-1), api.ErrLong}, {row(99, -5, 4), api.ErrLong},
		{row(99, -5, 3), api.ErrShort}, {row(99, -5, 3) + arg + form, api.ErrArg}, {row(99, -5, 3) + form + arg, api.ErrForm}, {row(99, -5, 3, 0, 0, 4) + form, api.ErrLong},
		{row(99, -5, 3, 0, 0, 0) + arg + form, api.ErrArg}, {row(99, -5, 3, 0, 0, 0, 0, 0, 0) + row(0, 0, 5), api.ErrLong}, {row(99, -5, 2, none, none) + row(-1), api.ErrForm},
		{row(99, -5, 2, none, none) + row("s", 256), api.ErrArg}, {row(99, -5, 2, none, none) + row("s", 255), api.ErrShort}, {row(99, -5, 2, none, none) + row("s", 255, 0, 13), api.ErrLong},
	} {
		for _, ahead := range []string{row(1, 3, source, "m", 2, 0, 1, 0), row(0, 3, source, "s", 255, -9, 2, 99, -99), row(9, 2, "", 0, 5, 0)} {
			wrong(t, ahead+r.x, r.e)
		}
	}
	// of the whole: that it may not be is told behind all others, as is what is left
	for _, bad := range [][]any{{0, 2, source, sink("t", 0)}, {1, 2, "", 1, 0, 0, none, sink("t", 0)}, {1, 2, source, "t", 255, 0, 0, none}, {1, 2, "s", 0, 0, 0, none, sink("t", 0)}, {1, 2, source, sink("t", 5)}, {1, 2, source, sink("s", 0)}, {1, 1, source}, {1, 0}} {
		s := row(bad...)
		wrong(t, s, api.ErrArg)
		wrong(t, s+"\x80", api.ErrArg)
		if bad[1].(int) > 0 {
			wrong(t, s[:len(s)-1], api.ErrShort)
			wrong(t, s[:len(s)-1]+form, api.ErrForm)
			wrong(t, s[:len(s)-1]+long, api.ErrLong)
			wrong(t, s[:len(s)-3]+arg, api.ErrArg)
		}
	}
}

// TestUnput: P14.1: jobs that may not be, of each error of chapter 12.
func TestUnput(t *testing.T) {
	j := jobOf(t, "par 1", "s source", "m map s : val + 1", "w window m 3", "u union w m", "t sink u")
	for _, change := range []func(k *api.Job){
		func(k *api.Job) { k.Par = 0 },
		func(k *api.Job) { k.Par = 5 },
		func(k *api.Job) { k.Par = math.MinInt },
		func(k *api.Job) { k.Nodes = nil },
		func(k *api.Job) { k.Nodes = k.Nodes[:1] },
		func(k *api.Job) { k.Nodes = k.Nodes[:4] },
		func(k *api.Job) { k.Nodes = slices.Repeat(k.Nodes, 3) },
		func(k *api.Job) { k.Nodes[1].Uid = "" },
		func(k *api.Job) { k.Nodes[1].Uid = "s" },
		func(k *api.Job) { k.Nodes[1].Uid = strings.Repeat("x", 65537) },
		func(k *api.Job) { k.Nodes[1].Kind = 3 },
		func(k *api.Job) { k.Nodes[1].Kind = 255 },
		func(k *api.Job) { k.Nodes[1].In = nil },
		func(k *api.Job) { k.Nodes[1].In = []int{1} },
		func(k *api.Job) { k.Nodes[1].In = []int{-1} },
		func(k *api.Job) { k.Nodes[1].In = make([]int, 13) },
		func(k *api.Job) { k.Nodes[1].X = api.Expr{Op: 4} },
		func(k *api.Job) { k.Nodes[1].X.Args = k.Nodes[1].X.Args[:1] },
		func(k *api.Job) { k.Nodes[1].N = 1 },
		func(k *api.Job) { k.Nodes[2].N = 17 },
		func(k *api.Job) { k.Nodes[2].X.N = 1 },
		func(k *api.Job) { k.Nodes[3].In = []int{2, 2} },
		func(k *api.Job) { k.Nodes[3].In = []int{1, 0} },
		func(k *api.Job) { k.Nodes[4].Kind = 8 },
		func(k *api.Job) { k.Nodes[0].Kind = 9 },
		func(k *api.Job) { k.Nodes[0].X.Args = []api.Expr{{}} },
	} {
		k := copied(j)
		change(&k)
		unput(t, k)
	}
	unput(t, api.Job{})
	unput(t, api.Job{Par: 1, Nodes: make([]api.Node, 1<<20)})
	if _, e := pack.Put(j); e != api.OK {
		t.Error(e)
	}
}
