package tell_test

import (
	"slices"
	"strconv"
	"strings"
	"testing"
	"unicode/utf8"

	"changeling/api"
	"changeling/expr"
	"changeling/tell"
)

// forms are the lines of Ops by the chapter's words: A, B and C stand for the lines of the Args.
func forms(op uint8) string {
	return []string{"", "", "key", "val", "acc", "(-A)", "(!A)", "(A + B)", "(A - B)", "(A * B)", "(A / B)", "(A % B)", "(A < B)", "(A <= B)", "(A = B)", "(A != B)", "(A & B)", "(A | B)", "(if A then B else C)"}[op]
}

// line is the line of an expression that may be, by the chapter's words.
func line(x api.Expr) string {
	if x.Op == 1 {
		return strconv.FormatInt(x.N, 10)
	}
	s := ""
	for _, r := range forms(x.Op) {
		if 'A' <= r && r <= 'C' {
			s += line(x.Args[r-'A'])
		} else {
			s += string(r)
		}
	}
	return s
}

// holds holds Line against the chapter's words, and against Parse of the line; and asks that x is as it was.
func holds(t *testing.T, x api.Expr) api.Errno {
	t.Helper()
	before := copied(x)
	want, e := "", api.ErrArg
	if expr.May(x) {
		want, e = line(x), api.OK
	}
	if len(want) > 400 {
		want, e = "", api.ErrWide
	}
	if e == api.OK {
		told(t, x, want)
		same(t, want, want, true)
	} else {
		wrong(t, x, e)
	}
	if !alike(x, before) {
		t.Errorf("%.300s was %.300s", shown(x), shown(before))
	}
	return e
}

// leaves are expressions without Args.
func leaves() []api.Expr {
	return []api.Expr{key, val, acc, num(0), num(7), num(10), num(greatest)}
}

// TestWithin: P11.1: each Op within each other one, at each place, also deep within others.
func TestWithin(t *testing.T) {
	places(func(op uint8, place int) {
		l := leaves()
		for inner := uint8(5); inner <= 18; inner++ {
			l = append(l, of(inner, leaves()[:many(inner)]...))
		}
		for _, x := range l {
			for _, other := range l {
				for _, levels := range []int{1, 2, 3, 14} {
					holds(t, within(x, op, place, levels, other))
				}
			}
			holds(t, within(x, op, place, 15, key))
			wrong(t, within(x, op, place, 16, key), api.ErrArg)
		}
	})
}

// TestRows: P11.1: Args are told in their order, whatever they are.
func TestRows(t *testing.T) {
	for op := uint8(5); op <= 18; op++ {
		for _, a := range leaves() {
			for _, b := range leaves() {
				for _, c := range leaves() {
					holds(t, of(op, []api.Expr{a, b, c}[:many(op)]...))
				}
			}
		}
	}
}

// picker picks numbers from one start.
type picker uint64

func (p *picker) of(n int) int {
	*p = *p*6364136223846793005 + 1442695040888963407
	return int(uint64(*p) >> 33 % uint64(n))
}

// number picks one of few digits or of many.
func (p *picker) number() int64 {
	return (int64(p.of(1<<31))<<32 | int64(p.of(1<<31))<<1 | int64(p.of(2))) >> p.of(63)
}

// grown is an expression of at most so many levels.
func (p *picker) grown(deep int) api.Expr {
	if deep == 1 || p.of(15) == 0 {
		return []api.Expr{num(p.number()), num(int64(p.of(12))), key, val, acc}[p.of(5)]
	}
	x := of(uint8(5 + p.of(14)))
	for range many(x.Op) {
		x.Args = append(x.Args, p.grown(deep-1))
	}
	return x
}

// narrow is an expression that is just so deep, and not wide.
func (p *picker) narrow(deep int) api.Expr {
	x := p.grown(1)
	for range deep - 1 {
		op := uint8(5 + p.of(14))
		x = within(x, op, p.of(many(op)), 1, p.grown(1))
	}
	return x
}

// TestGrown: P11.1, P11.3: whatever may be.
func TestGrown(t *testing.T) {
	p := picker(11)
	many := map[api.Errno]int{}
	for range 6000 {
		many[holds(t, p.grown(1+p.of(8)))]++
		many[holds(t, p.narrow(1+p.of(16)))]++
		wrong(t, p.narrow(17+p.of(3)), api.ErrArg)
		if t.Failed() {
			t.FailNow()
		}
	}
	if many[0] < 1000 || many[110] < 500 || many[2] > 0 {
		t.Error(many)
	}
}

// changed is x with one part changed: the copy shares no parts with x.
func (p *picker) changed(x api.Expr) api.Expr {
	x = copied(x)
	at := &x
	for len(at.Args) > 0 && p.of(4) > 0 {
		at = &at.Args[p.of(len(at.Args))]
	}
	switch p.of(7) {
	case 0:
		at.Op = uint8(p.of(20))
	case 1:
		at.N = p.number() - int64(p.of(20))
	case 2:
		at.Args = append(at.Args, key)
	case 3:
		at.Args = at.Args[:len(at.Args)/2]
	case 4:
		slices.Reverse(at.Args)
	case 5:
		*at = of(5, *at)
	default:
		*at = p.grown(1 + p.of(3))
	}
	return x
}

// TestChanged: P11.1, R1: expressions with one part changed for whatever; two that are not the same have not the same line.
func TestChanged(t *testing.T) {
	p := picker(77)
	many := map[api.Errno]int{}
	for range 20000 {
		x := p.grown(1 + p.of(7))
		y := p.changed(x)
		many[holds(t, y)]++
		a, e := tell.Line(x)
		b, f := tell.Line(y)
		if e == api.OK && f == api.OK {
			if (a == b) != alike(x, y) {
				t.Errorf("%s and %s: %q and %q", shown(x), shown(y), a, b)
			}
			same(t, a, b, a == b)
		}
		if t.Failed() {
			t.FailNow()
		}
	}
	for _, e := range []api.Errno{0, 2, 110} {
		if many[e] < 300 {
			t.Error(many)
		}
	}
}

// blanks picks what may stand between tokens.
func (p *picker) blanks() string {
	return []string{"", "", "", " ", "\t", "  ", " \t "}[p.of(7)]
}

// text is one of the texts of x, by the rules of chapter 8: with blanks or without, and with parentheses where they must be, or anywhere. need is the rule that is asked for: 0 or, 1 and, 2 cmp, 3 sum, 4 term, 5 unary; -1 where an if may stand bare, as nothing goes on behind it.
func (p *picker) text(x api.Expr, need int) string {
	rule := []int{0, 6, 6, 6, 6, 5, 5, 3, 3, 4, 4, 4, 2, 2, 2, 2, 1, 0, -1}[x.Op]
	if rule < need || p.of(6) == 0 {
		return p.blanks() + "(" + p.bare(x, rule) + p.blanks() + ")"
	}
	return p.bare(x, rule)
}

// bare is a text of x that has no parentheses around it all.
func (p *picker) bare(x api.Expr, rule int) string {
	sign := strings.Trim(forms(x.Op), "(ABC )")
	switch {
	case x.Op == 1:
		return p.blanks() + strings.Repeat("0", p.of(3)) + strconv.FormatInt(x.N, 10)
	case x.Op <= 4:
		return p.blanks() + sign
	case x.Op <= 6:
		return p.blanks() + sign + p.text(x.Args[0], 5)
	case x.Op == 18:
		return p.blanks() + "if " + p.text(x.Args[0], -1) + " then " + p.text(x.Args[1], -1) + " else " + p.text(x.Args[2], -1)
	}
	left := rule
	if rule == 2 {
		left = 3
	}
	return p.text(x.Args[0], left) + p.blanks() + sign + p.text(x.Args[1], rule+1)
}

// TestSame: P11.2: texts of one expression, whatever blanks and parentheses they have; and of two.
func TestSame(t *testing.T) {
	p := picker(112)
	long, differ := 0, 0
	for range 6000 {
		x := p.grown(1 + p.of(6))
		if p.of(4) == 0 {
			x = p.narrow(1 + p.of(16))
		}
		a, b := p.text(x, -1)+p.blanks(), p.text(x, -1)+p.blanks()
		if len(a) > 400 || len(b) > 400 {
			long++
			same(t, a, b, false)
			continue
		}
		same(t, a, b, true)
		same(t, a, a, true)
		if y := p.changed(x); expr.May(y) {
			c := p.text(y, -1)
			same(t, a, c, len(c) <= 400 && alike(x, y))
			if !alike(x, y) {
				differ++
			}
		}
		if s, e := tell.Line(x); e == api.OK {
			same(t, a, s, true)
		}
		if t.Failed() {
			t.FailNow()
		}
	}
	if long < 30 || differ < 1000 {
		t.Error(long, differ)
	}
}

// TestSameByHand: P11.2: what the chapters say of texts.
func TestSameByHand(t *testing.T) {
	blanks := strings.Repeat(" ", 399)
	for _, l := range [][2]string{
		{"1", "1"}, {"1", " 1"}, {"1", "1\t"}, {"1", "(1)"}, {"1", "( ( 1 ) )"}, {"1", "01"}, {"0", "000"}, {"key", "(key)"}, {"1+2", "1 + 2"}, {"1+2*3", "1+(2*3)"}, {"1-2-3", "(1-2)-3"}, {"1/2*3%4", "((1/2)*3)%4"},
		{"1|2&3", "1|(2&3)"}, {"1&2<3", "1&(2<3)"}, {"1<2+3", "1<(2+3)"}, {"-1*2", "(-1)*2"}, {"!-!1", "!(-(!1))"}, {"--1", "- -1"}, {"!1=2", "(!1)=2"}, {"1!=2", "1 != 2"}, {"1<=2", "(1)<=(2)"},
		{"if 1 then 2 else 3+4", "if 1 then 2 else (3+4)"}, {"if(1)then(2)else(3)", "(if 1 then 2 else 3)"}, {"if 1 then if 2 then 3 else 4 else 5", "if 1 then (if 2 then 3 else 4) else 5"},
		{"1", blanks + "1"}, {"1" + blanks, blanks + "1"},
	} {
		same(t, l[0], l[1], true)
		same(t, l[0], l[0], true)
	}
	for _, l := range [][2]string{
		{"1", "2"}, {"1", "10"}, {"1", "-1"}, {"1", "key"}, {"key", "val"}, {"val", "acc"}, {"1+2", "2+1"}, {"1+2", "1-2"}, {"1+2*3", "(1+2)*3"}, {"1-2-3", "1-(2-3)"}, {"1|2&3", "(1|2)&3"}, {"--1", "1"}, {"-1*2", "-(1*2)"}, {"!1=2", "!(1=2)"}, {"1<2", "1<=2"}, {"1<2", "2<1"}, {"1=2", "1!=2"}, {"!(1=2)", "1!=2"}, {"1+1", "2"}, {"0", "-0"},
		{"if 1 then 2 else 3", "if 1 then 3 else 2"}, {"if 1 then 2 else 3+4", "(if 1 then 2 else 3)+4"},
	} {
		same(t, l[0], l[1], false)
	}
}

// nones are texts that are of no expression.
func nones() []string {
	return []string{"", " ", "\t", "()", "(", "(1", "1)", "1 +", "+ 1", "1 2", "key val", "k", "Key", "if", "if 1", "if 1 then 2", "1 then 2", "1 < 2 < 3", "1 $ 2", "$", "1\n", "\x00", "\xff", "1\xff", "ü", "9223372036854775808", strings.Repeat(" ", 400) + "1", strings.Repeat("-", 16) + "1", strings.Repeat("1+", 16) + "1", strings.Repeat("(1", 9), strings.Repeat("1", 401), strings.Repeat("(", 1<<16), strings.Repeat("-", 1<<16), strings.Repeat("(1)", 1<<16), strings.Repeat("-(", 200), strings.Repeat("if ", 133)}
}

// TestNone: P11.2: a text that is none's is not the same as any, nor as itself.
func TestNone(t *testing.T) {
	for _, a := range nones() {
		for _, b := range append(nones(), "1", "key", "(1)", a+"1", a+" ") {
			if _, _, e := expr.Parse(b); e != api.OK || b == "1" || b == "key" || b == "(1)" {
				same(t, a, b, false)
			}
		}
	}
}

// TestThereAndBack: P11.3: a text that is read, told, read and told again is told alike, and Same tells so; lines have one text alone.
func TestThereAndBack(t *testing.T) {
	p := picker(113)
	wide := 0
	for range 6000 {
		s := p.text(p.grown(1+p.of(8)), -1)
		if p.of(2) == 0 {
			s = strings.Join(strings.Fields(s), " ")
		}
		x, _, e := expr.Parse(s)
		if e != api.OK {
			if len(s) <= 400 {
				t.Fatal(s, e)
			}
			continue
		}
		a, e := tell.Line(x)
		if e == api.ErrWide && len(line(x)) > 400 {
			wide++
			continue
		}
		y, at, f := expr.Parse(a)
		b, g := tell.Line(y)
		if e != 0 || f != 0 || g != 0 || at != 0 || a != b || !alike(x, y) || !expr.Same(x, y) || !tell.Same(s, a) {
			t.Fatalf("%q is told %q, error %d, then %q, error %d", s, a, e, b, g)
		}
		if strings.ContainsFunc(a, func(r rune) bool { return r == '\t' || r == '\n' || r >= utf8.RuneSelf }) || strings.Contains(a, "  ") || strings.Trim(a, " ") != a {
			t.Errorf("%q", a)
		}
	}
	if wide == 0 {
		t.Error(wide)
	}
}

// TestShortTextWideLine: P11.1: a text may be short enough, and its line be too wide.
func TestShortTextWideLine(t *testing.T) {
	row := strings.Repeat("1*", 7) + "1"
	s, e := tell.Line(read(t, strings.Repeat(row+"+", 7)+row))
	if len(s) != 379 || e != 0 {
		t.Error(s, e)
	}
	wrong(t, read(t, strings.Repeat(row+"+", 8)+row), api.ErrWide)
	same(t, strings.Repeat(row+"+", 8)+row, strings.Repeat("("+row+") + ", 8)+row, true)
	told(t, read(t, strings.Repeat(row+"+", 7)+row+"|-"+strings.Repeat("1", 11)), "("+s+" | (-"+strings.Repeat("1", 11)+"))")
	told(t, read(t, strings.Repeat(row+"+", 7)+row+"|-"+strings.Repeat("1", 13)), "("+s+" | (-"+strings.Repeat("1", 13)+"))")
	wrong(t, read(t, strings.Repeat(row+"+", 7)+row+"|-"+strings.Repeat("1", 14)), api.ErrWide)
}

// TestTexts: P11.2, R1: whatever bytes texts have.
func TestTexts(t *testing.T) {
	p := picker(3)
	tokens := []string{"1", "20", "key", "val", "acc", "+", "-", "*", "/", "%", "(", ")", "&", "|", "!", "=", "<", "<=", "!=", "if ", " then ", " else ", " ", "\t", "ü", "\xff", "\n", "$", "\x00"}
	both := 0
	for range 60000 {
		l := []string{"", ""}
		for i := range l {
			for many := range p.of(6) {
				switch {
				case p.of(40) == 0:
					l[i] += string([]byte{byte(p.of(256))})
				case p.of(2) == 0:
					l[i] += tokens[p.of(len(tokens))]
				default: // what may well stand there
					l[i] += tokens[many%2*5+p.of(5)]
				}
			}
		}
		x, _, e := expr.Parse(l[0])
		y, _, f := expr.Parse(l[1])
		same(t, l[0], l[1], e == 0 && f == 0 && alike(x, y))
		same(t, l[0], l[0], e == 0)
		if e == 0 && f == 0 {
			both++
		}
	}
	if both < 1000 {
		t.Error(both)
	}
}

// TestKept: R3: what is handed in is not changed, nor what stands behind a list's end; that is no part of it.
func TestKept(t *testing.T) {
	l := []api.Expr{key, val, acc, {Op: 77, N: -1}}
	for many := range 5 {
		for op := range uint8(20) {
			holds(t, api.Expr{Op: op, Args: l[:many]})
		}
	}
	told(t, api.Expr{Op: 8, Args: l[:2]}, "(key - val)")
	told(t, api.Expr{Op: 5, Args: l[1:2]}, "(-val)")
	told(t, api.Expr{Op: 4, Args: l[:0]}, "acc")
	if !slices.EqualFunc(l, []api.Expr{{Op: 2}, {Op: 3}, {Op: 4}, {Op: 77, N: -1}}, alike) {
		t.Error(l)
	}
}

// TestAgain: R5: what was asked before makes no difference; a line stays as it was answered.
func TestAgain(t *testing.T) {
	p := picker(5)
	var l []api.Expr
	var told []string
	for len(l) < 200 {
		x := p.grown(5)
		if s, e := tell.Line(x); e == api.OK {
			l, told = append(l, x), append(told, s)
		}
	}
	for range 3000 {
		i := p.of(len(l))
		if s, e := tell.Line(l[i]); s != told[i] || s != line(l[i]) || e != 0 {
			t.Fatal(s, e, told[i])
		}
		tell.Line(p.grown(7))
		tell.Same(told[i], "(")
	}
}

// TestShared: R1: Args that are shared on all levels: there are more ways to a part than calls could go.
func TestShared(t *testing.T) {
	for op := uint8(5); op <= 18; op++ {
		for _, leaf := range leaves() {
			x, width := leaf, len(line(leaf))
			for deep := 1; deep <= 60; deep++ {
				switch s, e := tell.Line(x); {
				case deep > 16:
					wrong(t, x, api.ErrArg)
				case width > 400:
					wrong(t, x, api.ErrWide)
				case e != 0 || s != line(x) || len(s) != width:
					t.Fatal(op, deep, s, e)
				}
				x = of(op, slices.Repeat([]api.Expr{x}, many(op))...)
				width = min(1<<20, width*many(op)+around(op))
			}
		}
		bad := api.Expr{}
		for range 40 {
			bad = of(op, slices.Repeat([]api.Expr{bad}, many(op))...)
			wrong(t, bad, api.ErrArg)
		}
	}
}

// TestSharedOften: R1: nobody goes all the ways to a part that is shared: so often, that would take too long for a test.
func TestSharedOften(t *testing.T) {
	for n := range int64(5000) {
		x := num(n)
		for range 15 {
			x = of(18, x, x, x)
		}
		wrong(t, of(5, x), api.ErrArg)
		if s, e := tell.Line(x); s != "" || e != api.ErrWide {
			t.Fatal(n, len(s), e)
		}
	}
}

// TestEndless: R1: expressions that have themselves in them, that are much too deep, or have many Args: ErrArg.
func TestEndless(t *testing.T) {
	asked := func(x api.Expr) {
		t.Helper()
		if s, e := tell.Line(x); s != "" || e != api.ErrArg {
			t.Error(x.Op, s, e)
		}
	}
	for _, op := range []uint8{0, 1, 4, 5, 6, 7, 14, 16, 17, 18, 19, 255} {
		for many := 1; many <= 12; many++ {
			ring := make([]api.Expr, many)
			for i := range ring {
				ring[i] = of(op, ring...)
			}
			asked(ring[0])
			asked(of(5, ring[0]))
			asked(of(18, key, filler(900), ring[0]))
			two, one := make([]api.Expr, many), []api.Expr{of(5, key)}
			for i := range two {
				two[i] = of(5, one...)
			}
			one[0] = of(op, two...)
			asked(one[0])
			asked(of(17, key, one[0]))
		}
		x := key
		for range 1 << 20 {
			x = api.Expr{Op: op, Args: []api.Expr{x}}
		}
		asked(x)
	}
	asked(of(7, slices.Repeat([]api.Expr{key}, 1<<20)...))
	asked(of(1, slices.Repeat([]api.Expr{acc}, 1<<20)...))
}
