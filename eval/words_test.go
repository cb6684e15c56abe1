package eval_test

import (
	"math/big"
	"slices"
	"testing"

	"changeling/api"
	"changeling/eval"
	"changeling/kind"
)

// wrapped is what Go's int64 make of a sum, a difference or a product, reckoned by numbers that never run over; of a quotient and a rest, towards 0, and 0 if b is.
func wrapped(sign string, a, b int64) int64 {
	x, y, z := big.NewInt(a), big.NewInt(b), new(big.Int)
	switch {
	case sign == "+":
		z.Add(x, y)
	case sign == "-":
		z.Sub(x, y)
	case sign == "*":
		z.Mul(x, y)
	case b == 0:
		return 0
	case sign == "/":
		z.Quo(x, y)
	default:
		z.Rem(x, y)
	}
	all := new(big.Int).Lsh(big.NewInt(1), 64)
	z.Mod(z, all)
	if z.Bit(63) == 1 {
		z.Sub(z, all)
	}
	return z.Int64()
}

// words is what an expression that has a type comes to, by the chapter's words.
func words(x api.Expr, env api.Env) api.Value {
	l := make([]api.Value, 3)
	for i, a := range x.Args {
		l[i] = words(a, env)
	}
	a, b, c := l[0], l[1], l[2]
	n := func(n int64) api.Value { return api.Value{Type: 1, N: n} }
	is := func(is bool) api.Value { return api.Value{Type: 2, True: is} }
	switch x.Op {
	case 1:
		return n(x.N)
	case 2, 3, 4:
		return n([]int64{env.Key, env.Val, env.Acc}[x.Op-2])
	case 5:
		return n(wrapped("-", 0, a.N))
	case 6:
		return is(!a.True)
	case 7, 8, 9, 10, 11:
		return n(wrapped("+-*/%"[x.Op-7:x.Op-6], a.N, b.N))
	case 12:
		return is(a.N < b.N)
	case 13:
		return is(!(a.N > b.N))
	case 14:
		return is(a == b)
	case 15:
		return is(a != b)
	case 16:
		return is(a.True && b.True)
	case 17:
		return is(a.True || b.True)
	}
	if a.True {
		return b
	}
	return c
}

// holds holds all calls against the chapter's words, where kind tells that x has a type, and against kind's error, where it has none; and asks that x is as it was.
func holds(t *testing.T, x api.Expr, env api.Env) {
	t.Helper()
	before := copied(x)
	ty, e := kind.Of(x, true)
	want := api.Value{}
	if e == api.OK {
		want = words(x, env)
	}
	if want.Type != ty {
		t.Fatalf("%.300s is of type %d, comes to %v", line(x), ty, want)
	}
	told(t, x, env, want, e)
	if !alike(x, before) {
		t.Errorf("%.300s was %.300s", line(x), line(before))
	}
}

// row: the types of an Op's Args, and its own: i is TyInt, b TyBool.
func rows(op uint8) []string {
	return [][]string{nil, {"i"}, {"i"}, {"i"}, {"i"}, {"ii"}, {"bb"}, {"iii"}, {"iii"}, {"iii"}, {"iii"}, {"iii"}, {"iib"}, {"iib"}, {"iib", "bbb"}, {"iib", "bbb"}, {"bbb"}, {"bbb"}, {"biii", "bbbb"}}[op]
}

// places tells f of each Op that has Args, each row of it, and each place.
func places(f func(op uint8, row string, place int)) {
	for op := uint8(5); op <= 18; op++ {
		for _, row := range rows(op) {
			for place := range len(row) - 1 {
				f(op, row, place)
			}
		}
	}
}

// ofType are some expressions of a type.
func ofType(ty byte) []api.Expr {
	less, add := of(12, key, val), of(7, num(1), key)
	if ty == 'i' {
		return []api.Expr{num(3), num(0), num(greatest), key, val, acc, of(5, key), add, of(8, key, acc), of(9, val, val), of(10, acc, key), of(11, add, val), of(18, less, num(1), add)}
	}
	return []api.Expr{less, of(13, add, acc), of(14, key, key), of(15, less, less), of(6, less), of(16, less, less), of(17, less, yes), of(18, less, less, of(14, less, less))}
}

// within is x so many levels beneath others, each of that Op, at that place; the other Args are these, one after the other.
func within(x api.Expr, op uint8, row string, place, levels, other int) api.Expr {
	for range levels {
		y := of(op)
		for i := range len(row) - 1 {
			l := ofType(row[i])
			y.Args = append(y.Args, l[other%len(l)])
		}
		y.Args[place] = x
		x = y
	}
	return x
}

// envs are some numbers to reckon with.
func envs() []api.Env {
	return []api.Env{{}, {Key: 7, Val: 2, Acc: -3}, {Key: -7, Val: 3, Acc: 2}, {Key: least, Val: -1, Acc: greatest}, {Key: greatest, Val: greatest, Acc: least}, {Key: 1, Val: 1, Acc: 1}}
}

// TestWithin: P10.1: each Op within each other one, at each place.
func TestWithin(t *testing.T) {
	places(func(op uint8, row string, place int) {
		for _, x := range ofType(row[place]) {
			for other := range 13 {
				for _, env := range envs() {
					holds(t, within(x, op, row, place, 1, other), env)
				}
			}
		}
	})
}

// TestFarWithin: P10.1: each Op deep within others, just as deep as may be, and one deeper.
func TestFarWithin(t *testing.T) {
	places(func(op uint8, row string, place int) {
		if row[place] != row[len(row)-1] {
			return
		}
		for i, x := range ofType(row[place]) {
			deep := depth(x)
			for _, levels := range []int{2, 5, 15 - deep, 16 - deep} {
				for _, env := range envs() {
					for other := range 3 {
						holds(t, within(x, op, row, place, levels, i+other), env)
					}
				}
			}
			wrong(t, within(x, op, row, place, 17-deep, 0), api.ErrArg)
		}
	})
}

func depth(x api.Expr) int {
	deep := 0
	for _, a := range x.Args {
		deep = max(deep, depth(a))
	}
	return deep + 1
}

// TestDeep: P10.1: just MaxDeep deep, and one more, by hand.
func TestDeep(t *testing.T) {
	env := api.Env{Key: 3, Val: 5}
	minus, sum, not, cond := key, key, of(14, key, val), of(5, key)
	for deep := 1; deep <= 20; deep++ {
		if deep <= 16 {
			number(t, minus, env, []int64{-3, 3}[deep%2])
			number(t, sum, env, 3+5*int64(deep-1))
		} else {
			wrong(t, minus, api.ErrArg)
			wrong(t, sum, api.ErrArg)
		}
		if deep+1 <= 16 {
			is(t, not, env, deep%2 == 0)
			number(t, cond, env, -3)
		} else {
			wrong(t, not, api.ErrArg)
			wrong(t, cond, api.ErrArg)
		}
		minus, sum, not, cond = of(5, minus), of(7, val, sum), of(6, not), of(18, no, val, cond)
	}
}

// TestErrors: P10.1: kind's errors, at the top, and at each place within others, also in a branch that would not be taken.
func TestErrors(t *testing.T) {
	mayNot := []api.Expr{{}, num(-1), num(least), {Op: 2, N: 1}, {Op: 4, N: -1}, {Op: 7, N: 1, Args: []api.Expr{key, val}}, of(1, key), of(2, key), of(5), of(5, key, key), of(6, yes, yes), of(7, key), of(7), of(7, key, key, key), of(14, yes), of(18, yes, key), of(18, yes, key, key, key), of(19), of(19, key, key), of(255, key)}
	noType := []api.Expr{of(5, yes), of(6, key), of(7, key, yes), of(7, yes, key), of(11, yes, yes), of(12, yes, no), of(13, key, no), of(14, key, yes), of(15, yes, key), of(16, key, yes), of(16, no, key), of(17, yes, key), of(17, key, key), of(18, key, key, key), of(18, yes, key, yes), of(18, no, key, yes), of(18, no, yes, key)}
	for _, x := range mayNot {
		wrong(t, x, api.ErrArg)
		for _, y := range noType { // the one that is asked for first
			wrong(t, of(7, y, x), api.ErrArg)
			wrong(t, of(18, y, x, x), api.ErrArg)
			wrong(t, of(6, of(7, y, x)), api.ErrArg)
			wrong(t, of(18, x, y, y), api.ErrArg)
		}
	}
	for _, x := range noType {
		wrong(t, x, api.ErrType)
	}
	places(func(op uint8, row string, place int) {
		for _, levels := range []int{1, 2, 13} {
			for _, x := range mayNot {
				wrong(t, within(x, op, row, place, levels, 0), api.ErrArg)
			}
			for _, x := range noType {
				wrong(t, within(x, op, row, place, levels, 0), api.ErrType)
			}
		}
	})
	wrong(t, of(19, of(6, key)), api.ErrArg)
	wrong(t, of(16, no, of(16, yes, key)), api.ErrType)
	wrong(t, of(17, yes, of(6, num(0))), api.ErrType)
}

// TestWithAcc: P10.1: an ExAcc is no error, wherever it stands.
func TestWithAcc(t *testing.T) {
	number(t, acc, api.Env{Acc: 9}, 9)
	number(t, acc, api.Env{Key: 1, Val: 1}, 0)
	places(func(op uint8, row string, place int) {
		x := acc
		if row[place] == 'b' {
			x = of(12, acc, num(5))
		}
		for _, n := range []int64{least, 0, 4, 5, greatest} {
			y := within(x, op, row, place, 1, 0)
			if _, e := eval.Do(y, api.Env{Acc: n}); e != api.OK {
				t.Errorf("Do(%s): error %d", line(y), e)
			}
			holds(t, y, api.Env{Acc: n})
		}
	})
}

// picker picks numbers from one start.
type picker uint64

func (p *picker) of(n int) int {
	*p = *p*6364136223846793005 + 1442695040888963407
	return int(uint64(*p) >> 33 % uint64(n))
}

// number picks one that is near an edge, or any.
func (p *picker) number() int64 {
	if l := edges(); p.of(4) > 0 {
		return l[p.of(len(l))]
	}
	return int64(uint64(p.of(1<<31))<<33 ^ uint64(p.of(1<<31))<<12 ^ uint64(p.of(1<<12)))
}

func (p *picker) env() api.Env {
	return api.Env{Key: p.number(), Val: p.number(), Acc: p.number()}
}

// grown is an expression of at most so many levels, of that type: i or b.
func (p *picker) grown(ty byte, deep int) api.Expr {
	if deep == 1 || ty == 'i' && p.of(5) == 0 {
		n := max(0, p.number())
		return []api.Expr{num(n), key, val, acc, num(int64(p.of(4)))}[p.of(5)]
	}
	for {
		op := uint8(5 + p.of(14))
		l := rows(op)
		row := l[p.of(len(l))]
		if row[len(row)-1] != ty || deep == 2 && slices.Contains([]byte(row[:len(row)-1]), 'b') {
			continue
		}
		x := of(op)
		for i := range len(row) - 1 {
			x.Args = append(x.Args, p.grown(row[i], deep-1))
		}
		return x
	}
}

// TestGrown: P10.1, P10.2: whatever has a type.
func TestGrown(t *testing.T) {
	p := picker(10)
	deepest := 0
	for range 6000 {
		x := p.grown("ib"[p.of(2)], 2+p.of(5))
		deepest = max(deepest, depth(x))
		for range 5 {
			holds(t, x, p.env())
		}
		if t.Failed() {
			t.FailNow()
		}
	}
	for range 300 { // a narrow one, as deep as may be
		x := p.grown("ib"[p.of(2)], 2)
		for depth(x) < 16 {
			ty, _ := kind.Of(x, true)
			op := uint8(5 + p.of(14))
			l := rows(op)
			row := l[p.of(len(l))]
			if place := p.of(len(row) - 1); row[place] == " ib"[ty] {
				x = within(x, op, row, place, 1, p.of(40))
			}
		}
		deepest = max(deepest, depth(x))
		for range 20 {
			holds(t, x, p.env())
		}
	}
	if deepest != 16 {
		t.Error(deepest)
	}
}

// each tells f of x and of each of its parts; all is x, and changed if the part is.
func each(x api.Expr, f func(all, part *api.Expr)) {
	var into func(part *api.Expr)
	into = func(part *api.Expr) {
		for i := range part.Args {
			into(&part.Args[i])
		}
		f(&x, part)
	}
	into(&x)
}

// come is an expression that comes to that, at whatever key, val and acc, two levels deep or three.
func come(v api.Value) api.Expr {
	switch {
	case v.Type == 2:
		return truth(v.True)
	case v.N == least:
		return of(8, of(5, num(greatest)), num(1))
	case v.N < 0:
		return of(5, num(-v.N))
	}
	return num(v.N)
}

// TestParts: P10.3: a part for one that comes to the same makes no difference.
func TestParts(t *testing.T) {
	p := picker(103)
	for range 1500 {
		x, env := p.grown("ib"[p.of(2)], 2+p.of(5)), p.env()
		want, e := eval.Do(x, env)
		if e != api.OK {
			t.Fatal(line(x), e)
		}
		each(x, func(all, part *api.Expr) {
			was := *part
			is, e := eval.Do(was, env)
			if e != api.OK {
				t.Fatal(line(was), e)
			}
			same := come(is)
			others := []api.Expr{same, of(18, yes, was, was), of(18, no, same, was)}
			if is.Type == 1 {
				others = append(others, of(5, of(5, was)), of(7, was, of(10, key, num(0))), of(8, of(7, was, val), val))
			} else {
				others = append(others, of(6, of(6, was)), of(16, was, yes), of(17, no, was), of(14, was, yes))
			}
			for _, other := range others {
				*part = other
				if got, e := eval.Do(*all, env); got != want || e != api.OK {
					t.Errorf("%s for %s in %s: %v, error %d, was %v", line(other), line(was), line(x), got, e, want)
				}
			}
			*part = was
		})
		if t.Failed() {
			t.FailNow()
		}
	}
}

// TestBranch: P10.3: the branch of an ExIf that is not taken makes no difference, also where it would divide by 0.
func TestBranch(t *testing.T) {
	p := picker(31)
	for range 3000 {
		ty := "ib"[p.of(2)]
		taken, env := p.grown(ty, 2+p.of(4)), p.env()
		want, _ := eval.Do(taken, env)
		others := []api.Expr{p.grown(ty, 2+p.of(4)), p.grown(ty, 2+p.of(4))}
		if ty == 'i' {
			others = append(others, of(10, key, num(0)), of(11, num(1), of(8, val, val)), of(10, of(8, of(5, num(greatest)), num(1)), of(5, num(1))))
		} else {
			others = append(others, of(14, of(10, key, num(0)), num(1)), of(12, of(11, key, num(0)), num(1)))
		}
		for _, other := range others {
			told(t, of(18, yes, taken, other), env, want, api.OK)
			told(t, of(18, no, other, taken), env, want, api.OK)
			told(t, of(18, of(6, no), of(18, yes, taken, other), other), env, want, api.OK)
			told(t, of(18, of(12, key, key), other, of(18, no, other, taken)), env, want, api.OK)
		}
		if t.Failed() {
			t.FailNow()
		}
	}
}

// TestChanged: P10.1, R1: expressions that have a type, with one part changed for whatever.
func TestChanged(t *testing.T) {
	p := picker(77)
	many := map[api.Errno]int{}
	for range 20000 {
		x, env := p.grown("ib"[p.of(2)], 2+p.of(5)), p.env()
		at := &x
		for len(at.Args) > 0 && p.of(4) > 0 {
			at = &at.Args[p.of(len(at.Args))]
		}
		switch p.of(6) {
		case 0:
			at.Op = uint8(p.of(20))
		case 1:
			at.N = p.number()
		case 2:
			at.Args = append(slices.Clone(at.Args), key)
		case 3:
			at.Args = at.Args[:len(at.Args)/2]
		case 4:
			slices.Reverse(at.Args)
		default:
			*at = p.grown("ib"[p.of(2)], 2+p.of(3))
		}
		_, e := kind.Of(x, true)
		many[e]++
		if holds(t, x, env); t.Failed() {
			t.FailNow()
		}
	}
	for _, e := range []api.Errno{0, 2, 91} {
		if many[e] < 1000 {
			t.Error(many)
		}
	}
}

// TestKept: R3: what is handed in is not changed, nor what stands behind a list's end; that is no part of it.
func TestKept(t *testing.T) {
	l := []api.Expr{key, val, acc, {Op: 77, N: -1}}
	env := api.Env{Key: 9, Val: 4, Acc: 2}
	for many := range 5 {
		for op := range uint8(20) {
			holds(t, api.Expr{Op: op, Args: l[:many]}, env)
		}
	}
	number(t, api.Expr{Op: 8, Args: l[:2]}, env, 5)
	number(t, api.Expr{Op: 5, Args: l[1:2]}, env, -4)
	number(t, api.Expr{Op: 2, Args: l[:0]}, env, 9)
	number(t, api.Expr{Op: 3, Args: []api.Expr{}}, env, 4)
	if !slices.EqualFunc(l, []api.Expr{{Op: 2}, {Op: 3}, {Op: 4}, {Op: 77, N: -1}}, alike) {
		t.Error(l)
	}
}

// TestAgain: R5: what was asked before makes no difference.
func TestAgain(t *testing.T) {
	p := picker(5)
	var l []api.Expr
	var e []api.Env
	var v []api.Value
	for range 200 {
		x, env := p.grown("ib"[p.of(2)], 5), p.env()
		l, e, v = append(l, x), append(e, env), append(v, words(x, env))
	}
	for range 2000 {
		i := p.of(len(l))
		told(t, l[i], e[i], v[i], api.OK)
		env := p.env()
		told(t, l[i], env, words(l[i], env), api.OK)
	}
}

// TestShared: R1: Args that are shared on all levels: there are more ways to a part than calls could go; and each call ends.
func TestShared(t *testing.T) {
	env := api.Env{Key: 1, Val: 3}
	for _, c := range []struct {
		op   uint8
		x    api.Expr
		e    api.Errno
		n    func(n int64) int64
		is   func(is bool) bool
		many int
	}{
		{7, key, 0, func(n int64) int64 { return n + n }, nil, 2}, {8, val, 0, func(n int64) int64 { return 0 }, nil, 2}, {9, val, 0, func(n int64) int64 { return n * n }, nil, 2}, {11, val, 0, func(n int64) int64 { return 0 }, nil, 2}, {10, val, 0, func(n int64) int64 { return min(1, n) }, nil, 2},
		{16, yes, 0, nil, func(is bool) bool { return is }, 2}, {17, no, 0, nil, func(is bool) bool { return is }, 2}, {14, no, 0, nil, func(bool) bool { return true }, 2}, {15, yes, 0, nil, func(bool) bool { return false }, 2},
		{18, yes, 0, nil, func(is bool) bool { return is }, 3}, {18, no, 0, nil, func(is bool) bool { return is }, 3},
		{7, yes, 91, nil, nil, 2}, {18, key, 91, nil, nil, 3}, {16, key, 91, nil, nil, 2}, {12, key, 91, nil, nil, 2}, {7, num(-1), 2, nil, nil, 2}, {0, key, 2, nil, nil, 2}, {99, key, 2, nil, nil, 3}, {18, api.Expr{}, 2, nil, nil, 3},
	} {
		x := c.x
		v, _ := eval.Do(x, env)
		for levels := 1; levels <= 60; levels++ {
			x = of(c.op, slices.Repeat([]api.Expr{x}, c.many)...)
			e := c.e
			switch {
			case levels+depth(c.x) > 16:
				e, v = api.ErrArg, api.Value{}
			case e == api.ErrType && c.op == 12 && levels == 1:
				e, v = 0, api.Value{Type: 2}
			case e != 0:
				v = api.Value{}
			case c.n != nil:
				v.N = c.n(v.N)
			default:
				v.True = c.is(v.True)
			}
			if got, err := eval.Do(x, env); got != v || err != e {
				t.Fatal(c.op, levels, got, err, v, e)
			}
			if eval.Int(x, env) != v.N || eval.Bool(x, env) != v.True {
				t.Fatal(c.op, levels)
			}
		}
	}
}

// TestEndless: R1: expressions that have themselves in them, that are much too deep, or have many Args: ErrArg.
func TestEndless(t *testing.T) {
	asked := func(x api.Expr) {
		t.Helper()
		env := api.Env{Key: 1, Val: 2, Acc: 3}
		if v, e := eval.Do(x, env); v != (api.Value{}) || e != api.ErrArg || eval.Int(x, env) != 0 || eval.Bool(x, env) {
			t.Error(x.Op, v, e)
		}
	}
	for _, op := range []uint8{0, 1, 4, 5, 6, 7, 14, 16, 17, 18, 19, 255} {
		for many := 1; many <= 12; many++ {
			ring := make([]api.Expr, many)
			for i := range ring {
				ring[i] = of(op, ring...)
			}
			asked(ring[0])
			asked(of(5, ring[0]))
			asked(of(18, yes, key, ring[0]))
			two, one := make([]api.Expr, many), []api.Expr{of(5, key)}
			for i := range two {
				two[i] = of(5, one...)
			}
			one[0] = of(op, two...)
			asked(one[0])
			asked(of(17, yes, one[0]))
		}
		x := key
		for range 1 << 20 {
			x = api.Expr{Op: op, Args: []api.Expr{x}}
		}
		asked(x)
	}
	asked(of(7, slices.Repeat([]api.Expr{key}, 1<<20)...))
	asked(of(1, slices.Repeat([]api.Expr{acc}, 1<<20)...))
}
