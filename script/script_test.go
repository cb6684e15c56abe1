package script_test

import (
	"math"
	"slices"
	"strconv"
	"strings"
	"testing"

	"changeling/api"
	"changeling/job"
	"changeling/script"
	"changeling/tell"
)

var (
	key = api.Expr{Op: 2}
	val = api.Expr{Op: 3}
	acc = api.Expr{Op: 4}
)

func num(n int64) api.Expr { return api.Expr{Op: 1, N: n} }

func of(op uint8, args ...api.Expr) api.Expr { return api.Expr{Op: op, Args: args} }

func source(uid string) api.Node         { return api.Node{Uid: uid, Kind: 1} }
func mapped(uid string, in int) api.Node { return api.Node{Uid: uid, Kind: 2, In: []int{in}, X: val} }
func window(uid string, in, n int) api.Node {
	return api.Node{Uid: uid, Kind: 7, In: []int{in}, N: n}
}
func union(uid string, in ...int) api.Node { return api.Node{Uid: uid, Kind: 8, In: in} }
func sink(uid string, in int) api.Node     { return api.Node{Uid: uid, Kind: 9, In: []int{in}} }

func jobOf(l ...api.Node) api.Job { return api.Job{Par: 1, Nodes: l} }

// between is a source s, the node, and a sink t that reads the one ahead of it.
func between(l ...api.Node) api.Job {
	l = append([]api.Node{source("s")}, l...)
	return jobOf(append(l, sink("t", len(l)-1))...)
}

// alike is whether both are the same, by the words of DOC.md.
func alike(a, b api.Expr) bool {
	return a.Op == b.Op && a.N == b.N && slices.EqualFunc(a.Args, b.Args, alike)
}

func alikeJobs(a, b api.Job) bool {
	return a.Par == b.Par && slices.EqualFunc(a.Nodes, b.Nodes, func(m, n api.Node) bool {
		return m.Uid == n.Uid && m.Kind == n.Kind && m.N == n.N && slices.Equal(m.In, n.In) && alike(m.X, n.X)
	})
}

// shown tells a job, whatever it is like, so that a failed test shows it.
func shown(j api.Job) string {
	s := "par " + strconv.Itoa(j.Par)
	for _, n := range j.Nodes {
		s += "; " + strconv.Quote(n.Uid) + " kind " + strconv.Itoa(int(n.Kind)) + " of"
		for _, i := range n.In {
			s += " " + strconv.Itoa(i)
		}
		s += " N " + strconv.Itoa(n.N) + " X " + strconv.Itoa(int(n.X.Op))
	}
	return s
}

// told asks Text of a job that may be.
func told(t *testing.T, j api.Job, want string) {
	t.Helper()
	if s, e := script.Text(j); s != want || e != api.OK {
		t.Errorf("Text(%.600s) = %q, error %d, want %q", shown(j), s, e, want)
	}
}

// untold asks Text of one that has none.
func untold(t *testing.T, j api.Job, want api.Errno) {
	t.Helper()
	if s, e := script.Text(j); s != "" || e != want {
		t.Errorf("Text(%.600s) = %q, error %d, want error %d", shown(j), s, e, want)
	}
}

// read asks Parse of a text of that job.
func read(t *testing.T, s string, want api.Job) {
	t.Helper()
	if j, line, e := script.Parse(s); !alikeJobs(j, want) || line != 0 || e != api.OK {
		t.Errorf("Parse(%.900q) = %.600s, error %d at %d, want %.600s", s, shown(j), e, line, shown(want))
	}
}

// wrong asks Parse of a text of none.
func wrong(t *testing.T, s string, line int, want api.Errno) {
	t.Helper()
	if j, at, e := script.Parse(s); !alikeJobs(j, api.Job{}) || at != line || e != want {
		t.Errorf("Parse(%.900q) = %.600s, error %d at %d, want error %d at %d", s, shown(j), e, at, want, line)
	}
}

// both asks Text and Parse.
func both(t *testing.T, j api.Job, s string) {
	t.Helper()
	told(t, j, s)
	read(t, s, j)
}

// text puts a byte 10 behind each line.
func text(l ...string) string {
	if len(l) == 0 {
		return ""
	}
	return strings.Join(l, "\n") + "\n"
}

// around is a text with these lines, from the third one on, between a source s and a sink t of s.
func around(l ...string) string {
	return text(slices.Concat([]string{"par 1", "s source"}, l, []string{"t sink s"})...)
}

// TestExamples: the chapter's.
func TestExamples(t *testing.T) {
	three := api.Job{Par: 2, Nodes: []api.Node{source("s"), {Uid: "m", Kind: 2, In: []int{0}, X: of(7, val, num(1))}, sink("t", 1)}}
	read(t, "par 2\ns source\nm map s : val + 1\nt sink m", three)
	read(t, "par 2\ns source\nm map s : val + 1\nt sink m\n", three)
	both(t, three, "par 2\ns source\nm map s : (val + 1)\nt sink m\n")
	wrong(t, "par 1\ns source\nt sink x", 3, api.ErrLine)
	wrong(t, "par 1\ns source\nt sink s : 1", 3, api.ErrLine)
}

// TestConstants: the error and the limit by the numbers that the document says.
func TestConstants(t *testing.T) {
	wrong(t, "", 0, 130)
	wrong(t, strings.Repeat("\n", 65537), 0, 3)
	if api.MaxBytes != 65536 {
		t.Error(api.MaxBytes)
	}
}

// TestKinds: P13.1, P13.2: each kind's word, and what its line has.
func TestKinds(t *testing.T) {
	yes := of(12, key, val)
	for _, r := range []struct {
		node api.Node
		line string
	}{
		{api.Node{Uid: "x", Kind: 2, In: []int{0}, X: of(8, key, num(12))}, "x map s : (key - 12)"},
		{api.Node{Uid: "x", Kind: 3, In: []int{0}, X: of(6, yes)}, "x filter s : (!(key < val))"},
		{api.Node{Uid: "x", Kind: 4, In: []int{0}, X: num(2)}, "x flat s : 2"},
		{api.Node{Uid: "x", Kind: 5, In: []int{0}, X: of(18, yes, key, of(5, val))}, "x key s : (if (key < val) then key else (-val))"},
		{api.Node{Uid: "x", Kind: 6, In: []int{0}, X: of(7, acc, val)}, "x reduce s : (acc + val)"},
		{window("x", 0, 16), "x window s 16"},
		{window("window", 0, 1), "window window s 1"},
		{api.Node{Uid: "map", Kind: 2, In: []int{0}, X: key}, "map map s : key"},
		{api.Node{Uid: "par", Kind: 6, In: []int{0}, X: acc}, "par reduce s : acc"},
	} {
		both(t, between(r.node), text("par 1", "s source", r.line, "t sink "+r.node.Uid))
	}
	both(t, jobOf(source("s"), sink("t", 0)), "par 1\ns source\nt sink s\n")
	both(t, jobOf(source("source"), sink("sink", 0)), "par 1\nsource source\nsink sink source\n")
	a, b := mapped("a", 0), mapped("b", 1)
	both(t, between(a, b, union("u", 2, 1)), text("par 1", "s source", "a map s : val", "b map a : val", "u union b a", "t sink u"))
	both(t, between(a, b, union("u", 1, 2)), text("par 1", "s source", "a map s : val", "b map a : val", "u union a b", "t sink u"))
	both(t, between(a, b, union("u", 1, 0, 2)), text("par 1", "s source", "a map s : val", "b map a : val", "u union a s b", "t sink u"))
	both(t, between(mapped("räume-7", 0), window("Ä", 1, 9)), text("par 1", "s source", "räume-7 map s : val", "Ä window räume-7 9", "t sink Ä"))
}

// TestLong: P13.1: the longest lines that a job's text has are read, too.
func TestLong(t *testing.T) {
	uid := func(r rune) string { return strings.Repeat("\U00010000", 23) + string(r) } // 96 bytes, with such a rune
	l := []api.Node{source(uid(0x10000)), mapped(uid(0x10001), 0), mapped(uid(0x10002), 1), union(uid(0x10003), 2, 1, 0), window(uid(0x10004), 3, 16)}
	l = append(l, api.Node{Uid: uid(0x10005), Kind: 6, In: []int{4}, X: wide(400)}, sink(uid(0x10006), 5))
	s, e := script.Text(jobOf(l...))
	if e != api.OK || strings.Count(s, "\n") != 8 {
		t.Fatal(len(s), e)
	}
	lines := strings.Split(s, "\n")
	if len(lines[4]) != 393 || len(lines[6]) != 96+8+96+3+400 {
		t.Error(len(lines[4]), len(lines[6]))
	}
	both(t, jobOf(l...), s)
	for len(l) < 12 {
		at := len(l) - 1
		n := api.Node{Uid: uid(rune(0x11000 + at)), Kind: 2, In: []int{at - 1}, X: wide(400)}
		l = append(l[:at], n, sink(uid(0x10006), at))
	}
	s, e = script.Text(jobOf(l...))
	if e != api.OK || strings.Count(s, "\n") != 13 {
		t.Fatal(len(s), e)
	}
	both(t, jobOf(l...), s)
}

// wide is an expression of TyInt whose line has just so many bytes, from 187 to 700.
func wide(bytes int) api.Expr {
	digits := bytes - 31*len("( + )")
	var l []api.Expr
	for left := 32; left > 0; left-- {
		n := int64(1)
		for range digits/left - 1 {
			n *= 10
		}
		l = append(l, num(n))
		digits -= digits / left
	}
	for len(l) > 1 {
		for i := range len(l) / 2 {
			l[i] = of(7, l[2*i], l[2*i+1])
		}
		l = l[:len(l)/2]
	}
	return l[0]
}

// full is an expression of TyInt with just so many parts, from 1 on.
func full(parts int) api.Expr {
	switch parts {
	case 1:
		return val
	case 2:
		return of(5, key)
	}
	left := (parts - 1) / 2
	return of(9, full(left), full(parts-1-left))
}

// line is the line of an expression that may be, by the words of chapter 11.
func line(x api.Expr) string {
	if x.Op == 1 {
		return strconv.FormatInt(x.N, 10)
	}
	s := ""
	for _, r := range []string{"", "", "key", "val", "acc", "(-A)", "(!A)", "(A + B)", "(A - B)", "(A * B)", "(A / B)", "(A % B)", "(A < B)", "(A <= B)", "(A = B)", "(A != B)", "(A & B)", "(A | B)", "(if A then B else C)"}[x.Op] {
		if 'A' <= r && r <= 'C' {
			s += line(x.Args[r-'A'])
		} else {
			s += string(r)
		}
	}
	return s
}

// TestWide: P13.1: an X whose line has just MaxText bytes, and one more, at each node.
func TestWide(t *testing.T) {
	for _, kind := range []uint8{2, 4, 5, 6} {
		for at := range 3 {
			for _, bytes := range []int{399, 400, 401, 402, 500} {
				j := between(mapped("a", 0), mapped("b", 1), mapped("c", 2))
				n := &j.Nodes[1+at]
				n.Kind, n.X = kind, wide(bytes)
				if bytes > 400 {
					untold(t, j, api.ErrWide)
					j.Par = 5
					untold(t, j, api.ErrArg)
					continue
				}
				s, e := script.Text(j)
				if e != api.OK || !strings.Contains(s, " : "+line(n.X)+"\n") {
					t.Error(s, e)
				}
				both(t, j, s)
			}
		}
	}
	j := between(mapped("a", 0))
	j.Nodes[1].Kind, j.Nodes[1].X = 3, of(12, val, wide(392))
	both(t, j, text("par 1", "s source", "a filter s : (val < "+line(j.Nodes[1].X.Args[1])+")", "t sink a"))
	j.Nodes[1].X.Args[1] = wide(393)
	untold(t, j, api.ErrWide)
}

// TestShortTextWideLine: P13.2, P13.3: an X whose text is short enough is read, though it has no line.
func TestShortTextWideLine(t *testing.T) {
	row := strings.Repeat("1*", 7) + "1"
	s := around("m map s : "+strings.Repeat(row+"+", 8)+row, "")
	s = strings.Replace(s, "t sink s", "t sink m", 1)
	j, at, e := script.Parse(s)
	if at != 0 || e != api.OK || job.Find(j, "m") != 1 {
		t.Fatal(at, e)
	}
	if _, e := tell.Line(j.Nodes[1].X); e != api.ErrWide {
		t.Fatal(e)
	}
	untold(t, j, api.ErrWide)
}

// TestUntold: P13.1: jobs that may not be, of each error of chapter 12.
func TestUntold(t *testing.T) {
	untold(t, api.Job{}, api.ErrArg)
	untold(t, api.Job{Par: 1}, api.ErrArg)
	untold(t, jobOf(source("s")), api.ErrArg)
	for _, par := range []int{math.MinInt, -1, 0, 5, 9, 10, math.MaxInt} {
		j := between(mapped("m", 0))
		j.Par = par
		untold(t, j, api.ErrArg)
	}
	for par := 1; par <= 4; par++ {
		j := between(mapped("m", 0))
		j.Par = par
		both(t, j, text("par "+strconv.Itoa(par), "s source", "m map s : val", "t sink m"))
	}
	for _, n := range []api.Node{{}, {Uid: "x"}, source("x"), mapped("x", 1), mapped("x", -1), mapped("", 0), mapped("a b", 0), mapped("a:", 0), mapped("#a", 0), mapped("a\n", 0), mapped("s", 0), mapped("t", 0), window("x", 0, 0), window("x", 0, 17), window("x", 0, -1), union("x", 0, 0), union("x", 0), sink("x", 0), {Uid: "x", Kind: 10, In: []int{0}}, {Uid: "x", Kind: 255, In: []int{0}}, {Uid: "x", Kind: 2, In: []int{0}}, {Uid: "x", Kind: 2, In: []int{0}, X: acc}, {Uid: "x", Kind: 3, In: []int{0}, X: val}, {Uid: "x", Kind: 2, In: []int{0}, X: val, N: 1}, {Uid: "x", Kind: 7, In: []int{0}, X: val, N: 1}} {
		untold(t, between(n), api.ErrArg)
	}
	untold(t, jobOf(source("s"), mapped("m", 0), sink("t", 0)), api.ErrArg)
	untold(t, jobOf(source("s"), mapped("m", 0), mapped("n", 1)), api.ErrArg)
}

// TestMaxBytes: P13.2: a text of just MaxBytes, and one more; that is told ahead of all else, at 0.
func TestMaxBytes(t *testing.T) {
	j, s := between(mapped("m", 0)), text("par 1", "s source", "m map s : val", "t sink m")
	for _, fill := range []string{"\n", " ", "\t", "#", "#\n", " \n", "#ß\xff"} {
		many := 65535 - len(s)
		rest := strings.Repeat(fill, many)[:many]
		for _, u := range []string{rest + "\n" + s, s + rest + "\n", s + rest + " ", s[:6] + rest + "\n" + s[6:], s[:len(s)-1] + "\n" + rest + "\n"} {
			if len(u) != 65536 {
				t.Fatal(len(u))
			}
			read(t, u, j)
			wrong(t, u+"\n", 0, api.ErrLong)
			wrong(t, u+" ", 0, api.ErrLong)
			wrong(t, "\n"+u, 0, api.ErrLong)
			wrong(t, u[1:]+"\x01\x01", 0, api.ErrLong)
			read(t, u[:65535], j)
		}
	}
	for _, r := range []struct {
		fill string
		line int
		e    api.Errno
	}{
		{"x", 1, api.ErrLong}, {"\x01", 1, api.ErrLong}, {"\xff", 1, api.ErrLong}, {"x\n", 1, api.ErrLine}, {"\x00\n", 1, api.ErrRune}, {":", 1, api.ErrLine}, {"\n", 0, api.ErrLine}, {" ", 0, api.ErrLine}, {"#", 0, api.ErrLine}, {"par 1\n", 2, api.ErrLine},
	} {
		u := strings.Repeat(r.fill, 1<<17)
		wrong(t, u[:65536], r.line, r.e)
		wrong(t, u[:65537], 0, api.ErrLong)
		wrong(t, u, 0, api.ErrLong)
	}
}

// TestPar: P13.2: Par of each digit, and what is none.
func TestPar(t *testing.T) {
	for n := range 10 {
		s := text("par "+strconv.Itoa(n), "s source", "t sink s")
		if 1 <= n && n <= 4 {
			read(t, s, api.Job{Par: n, Nodes: []api.Node{source("s"), sink("t", 0)}})
		} else {
			wrong(t, s, 0, api.ErrArg)
		}
		wrong(t, text("par "+strconv.Itoa(n), "s source", "t sink x"), 3, api.ErrLine)
		wrong(t, text("par "+strconv.Itoa(n)), 0, api.ErrArg)
	}
	for _, l := range []string{"par", "par 10", "par 11", "par 01", "par 00", "par 1 ", "par 1\t", "  par  1", "par -1", "par +1", "par 1.0", "par 1e0", "par 0x1", "par x", "par x1", "par 1x", "par ١", "par ß", "par /", "par ;", "par 1 1", "par 1 x", "par par 1", "1 par", "1", "Par 1", "PAR 1", "par1", "pa r 1", "pars 1", "ar 1", "par 1:", "par 1 :", "par 1 : 1", "par: 1", "par : 1", ": par 1", ":", " :", "s source", "s map 1", "par source", "par 4294967297", "par 18446744073709551617", "par 99999999999999999999"} {
		s := text(l, "s source", "t sink s")
		if strings.Join(strings.Fields(l), " ") == "par 1" {
			read(t, s, jobOf(source("s"), sink("t", 0)))
		} else {
			wrong(t, s, 1, api.ErrLine)
			wrong(t, "\n#\n"+s, 3, api.ErrLine)
			wrong(t, l, 1, api.ErrLine)
		}
	}
	// a second one is a node's line
	wrong(t, text("par 1", "par 1", "s source", "t sink s"), 2, api.ErrLine)
	wrong(t, around("par 2"), 3, api.ErrLine)
	wrong(t, text("s source", "par 1", "t sink s"), 1, api.ErrLine)
	read(t, text("par 1", "par source", "t sink par"), jobOf(source("par"), sink("t", 0)))
}

// TestWindow: P13.2: N of one and of two digits, of none and of three, at its bounds and beyond.
func TestWindow(t *testing.T) {
	asked := func(word string, n int) {
		t.Helper()
		s := text("par 1", "s source", "w window s "+word, "t sink w")
		if 1 <= n && n <= 16 {
			read(t, s, between(window("w", 0, n)))
		} else {
			wrong(t, s, 3, api.ErrNode)
		}
	}
	for n := range 100 {
		asked(strconv.Itoa(n), n)
		asked(strconv.Itoa(n/10)+strconv.Itoa(n%10), n)
	}
	for _, word := range []string{"", "x", "1x", "x1", "-1", "+1", "-", "1.", ".1", "1-", "/", ";", "1:", "001", "016", "016", "000", "100", "116", "257", "999", "0000000001", "4294967297", "18446744073709551617", "١", "1١", "²", "s", "ss", "w", "1 x", "s x"} {
		wrong(t, text("par 1", "s source", "w window s "+word, "t sink w"), 3, api.ErrLine)
	}
	for _, l := range []string{"w window", "w window s", "w window 3 s", "w window x 3", "w window 3 3", "w window s 3 3", "w window s 3 :", "w window s : 3", "w window s 3 : 3", "w window s 3 : val"} {
		wrong(t, text("par 1", "s source", l, "t sink w"), 3, api.ErrLine)
	}
	for _, l := range []string{"w window 3", "w window s s 3", "w window s s s 3"} { // as told, but May
		wrong(t, text("par 1", "s source", l, "t sink w"), 3, api.ErrNode)
	}
	wrong(t, text("par 1", "3 source", "w window 3", "t sink w"), 2, api.ErrNode) // the number, not the node of that Uid
	wrong(t, text("par 1", "s source", "3 map s : val", "w window 3 3", "t sink w"), 3, api.ErrNode)
	for _, word := range []string{"source", "map", "filter", "flat", "key", "reduce", "union", "sink"} { // no other kind has a number
		x := ""
		if strings.Contains(" map filter flat key reduce ", " "+word+" ") {
			x = " : val"
		}
		wrong(t, around("w "+word+" s 3"+x), 3, api.ErrLine)
		wrong(t, around("w "+word+" 3"+x), 3, api.ErrLine)
		wrong(t, around("w "+word+" 3 s"+x), 3, api.ErrLine)
	}
}

// TestLastLine: P13.2: a last line that lacks its byte 10.
func TestLastLine(t *testing.T) {
	j := jobOf(source("s"), sink("t", 0))
	for _, end := range []string{"", "\n", "\n\n", "\n#", "\n#\n", "\n \t", "\n \t\n", " ", "\t", " \n"} {
		read(t, "par 1\ns source\nt sink s"+end, j)
	}
	wrong(t, "par 1\ns source\nt sink", 3, api.ErrNode)
	wrong(t, "par 1\ns source\nt sink s\n\nx", 5, api.ErrLine)
	wrong(t, "par 1\ns source\nt sink s\n\nx\n", 5, api.ErrLine)
	wrong(t, "par 1", 0, api.ErrArg)
	wrong(t, "par 1\n", 0, api.ErrArg)
	wrong(t, "par 1\ns source", 0, api.ErrArg)
	wrong(t, "par 1\ns source\nm map s : val", 2+1, api.ErrShape)
	wrong(t, "x", 1, api.ErrLine)
}

// TestNothing: P13.2: lines that say nothing, ahead of, between and behind those that say something; these count as lines.
func TestNothing(t *testing.T) {
	none := []string{"", " ", "\t", " \t ", strings.Repeat(" ", 400), strings.Repeat(" ", 401), strings.Repeat("\t ", 1000), "#", "##", "# ", "#par 2", "# t sink x", "#:", "#: $", "#\x00\x01\xff", "#\ufffd", "#\r", "#" + strings.Repeat("x", 401)}
	lines := []string{"par 1", "s source", "m map s : val", "w window m 3", "t sink w"}
	j := between(mapped("m", 0), window("w", 1, 3))
	for _, s := range none {
		for at := range len(lines) + 1 {
			for many := 1; many <= 3; many++ {
				l := slices.Insert(slices.Clone(lines), at, slices.Repeat([]string{s}, many)...)
				read(t, text(l...), j)
				read(t, strings.Join(l, "\n"), j)
				wrong(t, text(append(l, "x")...), 6+many, api.ErrLine)
				wrong(t, text(slices.Insert(slices.Clone(l), at+many, "\x01")...), at+many+1, api.ErrRune)
				wrong(t, text(slices.Insert(slices.Clone(l), at, "\x01")...), at+1, api.ErrRune)
				if at >= 3 { // May's error: the line of the node that it tells
					wrong(t, strings.Replace(text(l...), "w window m 3", "w window m 17", 1), map[bool]int{true: 4 + many, false: 4}[at == 3], api.ErrNode)
				}
			}
		}
		wrong(t, s, 0, api.ErrLine)
		wrong(t, s+"\n"+s, 0, api.ErrLine)
		wrong(t, text(s, s, s), 0, api.ErrLine)
		read(t, s+"\n"+strings.Join(lines, "\n"+s+"\n")+"\n"+s, j)
	}
	wrong(t, text(none...), 0, api.ErrLine)
	wrong(t, "", 0, api.ErrLine)
	wrong(t, "\n\n\n", 0, api.ErrLine)
	wrong(t, strings.Repeat("\n", 65536), 0, api.ErrLine)
	for _, s := range []string{" #", "\t#", " # x", "x #", "x # y", "-", ".", "//", "\u00a0", "\u3000", "\v", "\f", "\r", "\x00", "\ufeff", "\xff", "\ufffd", "\x7f"} { // these are no such lines
		for at := range len(lines) + 1 {
			e := api.ErrLine
			if strings.ContainsAny(s, "\v\f\r\x00\ufffd") {
				e = api.ErrRune
			}
			wrong(t, text(slices.Insert(slices.Clone(lines), at, s)...), at+1, e)
		}
	}
	wrong(t, text("par 1", "s source", "m map s : val # the map", "t sink m"), 3, api.ErrToken)
	wrong(t, text("par 1", "s source # the source", "t sink s"), 2, api.ErrLine)
	wrong(t, text("par 1 # one", "s source", "t sink s"), 1, api.ErrLine)
	wrong(t, text("par 1", "# source", "t sink s"), 3, api.ErrLine)  // that line said nothing
	wrong(t, text("par 1", " # source", "t sink #"), 2, api.ErrNode) // that one did
	wrong(t, text("par 1", "#s source", "#t sink s"), 0, api.ErrArg)
}

// TestBlanks: P13.2: any blanks between words, around them, and ahead of an expression's text.
func TestBlanks(t *testing.T) {
	j := between(api.Node{Uid: "m", Kind: 2, In: []int{0}, X: of(7, val, num(1))}, window("w", 1, 3), union("u", 1, 2))
	s := text("par 1", "s source", "m map s : (val + 1)", "w window m 3", "u union m w", "t sink u")
	told(t, j, s)
	for _, b := range []string{" ", "  ", "\t", " \t", "\t ", "\t\t", strings.Repeat(" ", 90), strings.Repeat("\t", 90)} {
		u := strings.ReplaceAll(s, " ", b)
		read(t, u, j)
		read(t, strings.ReplaceAll(u, "\n", b+"\n"), j)
		read(t, b+strings.ReplaceAll(u, "\n", "\n"+b), j)
		read(t, strings.ReplaceAll(u, b+":"+b, ":"+b), j)
		read(t, strings.ReplaceAll(u, b+":"+b, b+":"), j)
		read(t, strings.ReplaceAll(u, b+":"+b, ":"), j)
	}
	for _, b := range []string{"", "\u00a0", "\u3000", "-", "_", "."} { // none of these parts words
		wrong(t, strings.Replace(s, "s source", "s"+b+"source", 1), 2, api.ErrLine)
		wrong(t, strings.Replace(s, "u union", "u"+b+"union", 1), 5, api.ErrLine)
		wrong(t, strings.Replace(s, "m 3", "m"+b+"3", 1), 4, api.ErrLine)
	}
	for _, b := range []string{"\v", "\f", "\r", "\x00", "\x1f", "\xff", "\xa0", "\ufffd"} {
		wrong(t, strings.Replace(s, "s source", "s"+b+"source", 1), 2, api.ErrRune)
		wrong(t, strings.Replace(s, "\n", b+"\n", 1), 1, api.ErrRune)
		wrong(t, strings.Replace(s, ":", b+":", 1), 3, api.ErrRune)
		wrong(t, strings.Replace(s, ":", ":"+b, 1), 3, api.ErrToken)
		wrong(t, strings.Replace(s, " 1)", " 1)"+b, 1), 3, api.ErrToken)
	}
	wrong(t, strings.ReplaceAll(s, "\n", "\r\n"), 1, api.ErrRune)
}

// TestTextOfX: P13.2: the blanks at its beginning are no part of it: it has MaxText bytes at most, and what is behind it counts.
func TestTextOfX(t *testing.T) {
	j := between(mapped("m", 0))
	ask := func(x string, e api.Errno) {
		t.Helper()
		s := text("par 1", "s source", "m map s :"+x, "t sink m")
		if e == api.OK {
			read(t, s, j)
		} else {
			wrong(t, s, 3, e)
		}
	}
	for _, b := range []string{"", " ", "\t", " \t", strings.Repeat(" ", 398), strings.Repeat(" ", 1000), strings.Repeat("\t ", 1000)} {
		ask(b+"val", 0)
		ask(b+"val "+b[:min(len(b), 396)], 0)
		ask(b+"val"+strings.Repeat(" ", 397), 0)
		ask(b+"val"+strings.Repeat(" ", 398), api.ErrLong)
		ask(b+"val"+strings.Repeat("\t", 397), 0)
		ask(b+"val"+strings.Repeat("\t", 398), api.ErrLong)
		ask(b+"(val)", 0)
		ask(b, api.ErrSyntax)
		ask(b+":val", api.ErrToken)
		ask(b+"val:", api.ErrToken)
		ask(b+"val : val", api.ErrToken)
		ask(b+"$", api.ErrToken)
		ask(b+"#", api.ErrToken)
		ask(b+"val val", api.ErrSyntax)
		ask(b+"val +", api.ErrSyntax)
		ask(b+"(val", api.ErrSyntax)
		ask(b+"9223372036854775808", api.ErrBig)
		ask(b+strings.Repeat("-", 16)+"1", api.ErrDeep)
		ask(b+strings.Repeat(":", 400), api.ErrToken)
		ask(b+strings.Repeat(":", 401), api.ErrLong)
		ask(b+"acc", api.ErrNode)
		ask(b+"val < 1", api.ErrNode)
		ask(b+"val + (1 < 2)", api.ErrNode)
	}
	ask("\u00a0val", api.ErrToken)
	ask("\u3000val", api.ErrSyntax) // one name (7)
	ask("\rval", api.ErrToken)
}

// TestColons: P13.2: a colon just where the kind has an X; the first one is what parts a line.
func TestColons(t *testing.T) {
	for _, word := range []string{"map", "filter", "flat", "key", "reduce"} {
		x := map[bool]string{true: "val < 1", false: "val"}[word == "filter"]
		for _, l := range []string{"m " + word, "m " + word + " s", "m " + word + " s val", "m : " + word + " s : " + x, ": m " + word + " s " + x, ":m " + word + " s : " + x} {
			wrong(t, text("par 1", "s source", l, "t sink m"), 3, api.ErrLine)
		}
		for _, l := range []string{"m " + word + " : s", "m " + word + ": " + x + " s", "m " + word + " s :", "m " + word + " s : "} {
			wrong(t, text("par 1", "s source", l, "t sink m"), 3, api.ErrSyntax)
		}
		wrong(t, text("par 1", "s source", "m "+word+" : "+x, "t sink m"), 3, api.ErrNode) // it reads none
		wrong(t, text("par 1", "s source", "m "+word+" s s : "+x, "t sink m"), 3, api.ErrNode)
		wrong(t, text("par 1", "s source", "m "+word+" s : "+x+" : "+x, "t sink m"), 3, api.ErrToken)
		wrong(t, text("par 1", "s source", "m "+word+" s :: "+x, "t sink m"), 3, api.ErrToken)
		wrong(t, text("par 1", "s source", "m "+word+": s : "+x, "t sink m"), 3, api.ErrToken)
	}
	for _, l := range []string{"m source", "m window s 3", "m union s s", "m sink s"} {
		for _, x := range []string{":", " :", " : ", " : val", " : $", " ::", ":" + strings.Repeat("x", 500), " : \xff"} {
			wrong(t, around(l+x), 3, api.ErrLine)
		}
	}
	wrong(t, "par 1\ns source : val\nt sink s\n", 2, api.ErrLine)
	wrong(t, "par 1\ns source :\nt sink s\n", 2, api.ErrLine)
	wrong(t, around(":"), 3, api.ErrLine)
	wrong(t, around(": val"), 3, api.ErrLine)
	wrong(t, around(" :"), 3, api.ErrLine)
}

// TestUids: P13.2: words that are Uids of nodes ahead, and such as are not.
func TestUids(t *testing.T) {
	for _, uid := range []string{"x", "S", "ss", "t", "m", "s-", "s\u00a0", "1", "source", "par", "#", "ß", "t sink", "x s", "s x", "s m", "s t", "s s s x"} {
		wrong(t, text("par 1", "s source", "m map "+uid+" : val", "t sink m"), 3, api.ErrLine)
		wrong(t, text("par 1", "s source", "m window "+uid+" 3", "t sink m"), 3, api.ErrLine)
		wrong(t, text("par 1", "s source", "m union "+uid, "t sink m"), 3, api.ErrLine)
		wrong(t, text("par 1", "s source", "m sink "+uid, "t sink m"), 3, api.ErrLine)
		wrong(t, text("par 1", "s source", "m source "+uid, "t sink m"), 3, api.ErrLine)
	}
	wrong(t, text("par 1", "s source s", "t sink s"), 2, api.ErrLine)
	wrong(t, text("par 1", "s source t", "t sink s"), 2, api.ErrLine)
	wrong(t, text("par 1", "t sink s", "s source"), 2, api.ErrLine)
	for _, l := range []string{"m source s", "m map s s : val", "m window s s 3", "m union s", "m union s s", "m union s s s s", "m union", "m sink", "m sink s s", "m map : val", "7 map s : val", "- map s : val", "m filter s : val"} { // as told, but May
		wrong(t, text("par 1", "s source", l, "t sink s"), 3, api.ErrNode)
	}
	wrong(t, text("par 1", "s source", "s map s : val", "t sink s"), 3, api.ErrUid)
	wrong(t, text("par 1", "s source", "m map s : val", "s sink m"), 4, api.ErrUid)
	read(t, text("par 1", "s source", "S map s : val", "T map S : val", "u union T s S", "t sink u"), between(mapped("S", 0), mapped("T", 1), union("u", 2, 0, 1)))
	wrong(t, text("par 1", "7 source", "m map 7 : val", "t sink m"), 2, api.ErrNode) // the word is that node's, though it is no name
	long := strings.Repeat("ö", 24)
	read(t, text("par 1", long+" source", "t sink "+long), jobOf(source(long), sink("t", 0)))
	wrong(t, text("par 1", long+"o source", "t sink "+long+"o"), 2, api.ErrNode)
	wrong(t, text("par 1", long+" source", "t sink "+long+"o"), 3, api.ErrLine)
}

// TestWords: P13.2: words that are no kind's, and lines of too few words.
func TestWords(t *testing.T) {
	for _, word := range []string{"x", "s", "m", "par", "Source", "SINK", "sources", "ource", "sin", "maps", "mapp", "ma", "m-ap", "win-dow", "windows", "unions", "reducer", "keys", "ke", "flatmap", "filters", "node", "1", "0", "9", "10", "#", "\u00a0map", "ſource"} {
		for _, l := range []string{"m " + word, "m " + word + " s", "m " + word + " s : val", "m " + word + " s 3", "m " + word + " : val"} {
			wrong(t, around(l), 3, api.ErrLine)
			wrong(t, text("par 1", l), 2, api.ErrLine)
		}
	}
	for _, word := range []string{"source", "map", "filter", "flat", "key", "reduce", "window", "union", "sink"} {
		for _, l := range []string{word, word + " m", word + " : val", word + " s", word + " s 3", word + " s : val", " " + word + " "} {
			wrong(t, around(l), 3, api.ErrLine)
		}
	}
	wrong(t, around("m"), 3, api.ErrLine)
	wrong(t, around("m : val"), 3, api.ErrLine)
	wrong(t, around("s"), 3, api.ErrLine)
}

// TestWordsBytes: P13.2: what stands ahead of the colon has MaxText bytes at most, with its blanks.
func TestWordsBytes(t *testing.T) {
	j := between(mapped("m", 0))
	for many := 380; many < 420; many++ {
		fill := strings.Repeat(" ", many)
		ask := func(line string, s string, at int) {
			t.Helper()
			ahead, _, _ := strings.Cut(line, ":")
			if len(ahead) <= 400 {
				read(t, s, j)
			} else {
				wrong(t, s, at, api.ErrLong)
			}
		}
		for _, l := range []string{"par" + fill + "1", "par 1" + fill, fill + "par 1"} {
			ask(l, text(l, "s source", "m map s : val", "t sink m"), 1)
		}
		for _, l := range []string{"m" + fill + "map s : val", "m map s" + fill + ": val", fill + "m map s: val", "m map s:" + fill + "val"} {
			ask(l, text("par 1", "s source", l, "t sink m"), 3)
		}
		for _, l := range []string{"t" + fill + "sink m", "t sink m" + fill, fill + "t sink m"} {
			ask(l, text("par 1", "s source", "m map s : val", l), 4)
			ask(l, "par 1\ns source\n\n\nm map s : val\n"+l, 6)
		}
		wrong(t, around(strings.Repeat("x", many)), 3, map[bool]api.Errno{true: api.ErrLine, false: api.ErrLong}[many <= 400])
		wrong(t, around(strings.Repeat("ö", many/2)+":"), 3, map[bool]api.Errno{true: api.ErrLine, false: api.ErrLong}[many/2*2 <= 400])
		wrong(t, around(strings.Repeat("\xff", many)), 3, map[bool]api.Errno{true: api.ErrRune, false: api.ErrLong}[many <= 400])
	}
}

// TestOrder: P13.2: which of several errors is told, and where: within a line, then from line to line, then of the whole.
func TestOrder(t *testing.T) {
	long, x := strings.Repeat("x ", 201), " : $"
	for _, r := range []struct {
		line string
		e    api.Errno
	}{
		{long + "\x01" + x, api.ErrLong},
		{long + x, api.ErrLong},
		{"m\x01 foo" + x, api.ErrRune},
		{"m map s \xff" + x, api.ErrRune},
		{"m sink x\x02", api.ErrRune},
		{"m map x" + x, api.ErrLine},
		{"m sink s" + x, api.ErrLine},
		{"m foo s : (", api.ErrLine},
		{"m map s" + x, api.ErrToken},
		{"s map s" + x, api.ErrToken},
		{"7 map s s" + x, api.ErrToken},
		{"m map : " + strings.Repeat("x ", 201), api.ErrLong},
		{"m map s : \x01", api.ErrToken},
		{"m map s : (", api.ErrSyntax},
	} {
		wrong(t, around(r.line), 3, r.e)
		for _, other := range []string{long, "\x01", "x", "m map s : $", "m map s : (", "s source", "par 1"} { // behind it
			wrong(t, around(r.line, other), 3, r.e)
			wrong(t, around("m map s : val", "#", r.line, other), 5, r.e)
		}
		for _, other := range []string{"s source", "7 source", "m source s", "m window s 99", "m map s : acc"} { // May's, ahead of it
			wrong(t, around(other, r.line), 4, r.e)
		}
		wrong(t, text("par 9", "s source", r.line), 3, r.e)
		many := slices.Repeat([]string{"m source"}, 20)
		wrong(t, text(slices.Concat([]string{"par 0", "s source"}, many, []string{r.line})...), 23, r.e)
	}
	wrong(t, "x\n\x01", 1, api.ErrLine)
	wrong(t, "\x01\nx", 1, api.ErrRune)
	wrong(t, "par 0\n"+long, 2, api.ErrLong)
}

// TestMay: P13.2: job.May's error, at the line of the node that it tells; at 0, if it is ErrArg.
func TestMay(t *testing.T) {
	wrong(t, around("m map s : val"), 3, api.ErrShape) // nobody reads m
	wrong(t, around("", "#", "m map s : val", ""), 5, api.ErrShape)
	wrong(t, text("par 1", "#", "s map : val", "t sink s"), 3, api.ErrNode)
	wrong(t, text("par 1", "#", "s source", "x source", "t sink s"), 4, api.ErrShape)
	wrong(t, text("#", "par 1", "#", "s source", "#", "t sink s", "#", "t sink s"), 8, api.ErrUid)
	wrong(t, text("par 1", "s source", "m map s : acc", "t sink s", "t sink"), 3, api.ErrNode)
	wrong(t, text("par 1", "s source", "m map s : val", "t sink m", "x source"), 4, api.ErrShape)
	// as many nodes as may be, and one more
	for many := 10; many <= 30; many++ {
		l, j := []string{"par 1", "s source"}, jobOf(source("s"))
		for i := range many - 2 {
			l = append(l, "n"+strconv.Itoa(i)+" map "+j.Nodes[i].Uid+" : val")
			j.Nodes = append(j.Nodes, mapped("n"+strconv.Itoa(i), i))
		}
		l = append(l, "t sink "+j.Nodes[many-2].Uid)
		j.Nodes = append(j.Nodes, sink("t", many-2))
		if many <= 12 {
			both(t, j, text(l...))
		} else {
			wrong(t, text(l...), 0, api.ErrArg)
			wrong(t, text(append(l, "x")...), many+2, api.ErrLine)
		}
	}
	// as many parts as may be, and one more
	for total := 990; total < 1010; total++ {
		j, l := jobOf(source("s")), []string{"par 1", "s source"}
		for i, many := range []int{110, 110, 110, 110, 110, 110, 110, 110, total - 2 - 8*110} {
			x := full(many)
			j.Nodes = append(j.Nodes, api.Node{Uid: "n" + strconv.Itoa(i), Kind: 2, In: []int{i}, X: x})
			l = append(l, "n"+strconv.Itoa(i)+" map "+j.Nodes[i].Uid+" :"+strings.ReplaceAll(line(x), " ", ""))
		}
		j.Nodes = append(j.Nodes, sink("t", 9))
		l = append(l, "t sink n8")
		if total <= 1000 {
			read(t, text(l...), j)
		} else {
			wrong(t, text(l...), 0, api.ErrArg)
			wrong(t, text(append(l, "t sink n8", "s source")...), 0, api.ErrArg)
		}
	}
}
