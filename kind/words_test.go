package kind_test

import (
	"math"
	"slices"
	"testing"

	"changeling/api"
	"changeling/kind"
)

// fits is the type of an expression, by the chapter's words, whether it has an ExAcc or not; 0, if it has none.
func fits(x api.Expr) uint8 {
	l := make([]uint8, 3)
	for i, a := range x.Args {
		if l[i] = fits(a); l[i] == 0 {
			return 0
		}
	}
	allInt, allBool := !slices.Contains(l[:len(x.Args)], 2), !slices.Contains(l[:len(x.Args)], 1)
	switch {
	case x.Op <= 4:
		return 1
	case x.Op == 5 || x.Op >= 7 && x.Op <= 11:
		return when(allInt, 1)
	case x.Op == 6 || x.Op >= 16 && x.Op <= 17:
		return when(allBool, 2)
	case x.Op <= 13:
		return when(allInt, 2)
	case x.Op <= 15:
		return when(l[0] == l[1], 2)
	}
	return when(l[0] == 2 && l[1] == l[2], l[1])
}

func when(ok bool, ty uint8) uint8 {
	if ok {
		return ty
	}
	return 0
}

// hasAcc: whether there is an ExAcc in x.
func hasAcc(x api.Expr) bool { return x.Op == 4 || slices.ContainsFunc(x.Args, hasAcc) }

// may: whether x may be, where it stands so deep.
func may(x api.Expr, deep int) bool {
	if deep > 16 || x.Op < 1 || x.Op > 18 || len(x.Args) != counts(x.Op) || x.N < 0 || x.N != 0 && x.Op != 1 {
		return false
	}
	return !slices.ContainsFunc(x.Args, func(a api.Expr) bool { return !may(a, deep+1) })
}

// words is what the chapter tells of x.
func words(x api.Expr, with bool) (uint8, api.Errno) {
	switch {
	case !may(x, 1):
		return 0, 2
	case hasAcc(x) && !with:
		return 0, 90
	case fits(x) == 0:
		return 0, 91
	}
	return fits(x), 0
}

// holds holds Of and Is against the chapter's words, and asks that x is as it was.
func holds(t *testing.T, x api.Expr) {
	t.Helper()
	before := copied(x)
	for _, with := range []bool{false, true, false} {
		ty, e := words(x, with)
		told(t, x, with, ty, e)
	}
	if !alike(x, before) {
		t.Errorf("%s was %s", line(x), line(before))
	}
}

// TestMayNot: P9.1: expressions that may not be, at the top, and at each place within others: ErrArg.
func TestMayNot(t *testing.T) {
	none := mayNots()
	for _, x := range none {
		wrong(t, x, api.ErrArg)
		holds(t, x)
	}
	places(func(op uint8, row string, place int) {
		for _, levels := range []int{1, 2, 7, 13} {
			for _, x := range none {
				wrong(t, put(x, op, row, place, levels), api.ErrArg)
			}
		}
	})
}

// mayNots are some that may not be, each by one thing alone.
func mayNots() []api.Expr {
	less := of(12, key, val)
	l := []api.Expr{{}, {Op: 0, N: 1}, of(0, key), of(0, key, key), num(-1), num(math.MinInt64), {Op: 19}, of(19, key), of(19, key, key), of(19, less, key, key), of(20, key, key), of(128), {Op: 255}, of(255, key, key)}
	for op := uint8(1); op <= 18; op++ {
		for many := range 6 {
			x := of(op)
			for i := range many {
				x.Args = append(x.Args, []api.Expr{key, less, num(1)}[i%3])
			}
			if many != counts(op) {
				l = append(l, x)
			}
			if many == counts(op) && op != 1 {
				for _, n := range []int64{1, -1, math.MaxInt64, math.MinInt64, 1 << 32} {
					l = append(l, api.Expr{Op: op, N: n, Args: x.Args})
				}
			}
		}
	}
	return l
}

// TestOpBeyond: P9.1: each Op that there is not, with any number of Args, of any types.
func TestOpBeyond(t *testing.T) {
	for op := range 256 {
		if op >= 1 && op <= 18 {
			continue
		}
		for many := range 4 {
			for _, types := range args(many) {
				x := of(uint8(op))
				for i := range many {
					x.Args = append(x.Args, ofType(types[i])[0])
				}
				wrong(t, x, api.ErrArg)
				wrong(t, of(5, x), api.ErrArg)
			}
		}
	}
}

// TestFirstError: P9.1: of several errors the one that the chapter asks first, wherever each stands.
func TestFirstError(t *testing.T) {
	argErr := []api.Expr{{}, num(-1), of(19, key), of(7, key), {Op: 4, N: 1}, of(6, key, key), of(5, of(5, of(16, key)))}
	accErr := []api.Expr{acc, of(5, acc), of(12, acc, key), of(7, key, of(9, acc, key)), of(18, of(14, key, val), key, acc)}
	typeErr := []api.Expr{of(6, key), of(7, key, of(12, key, val)), of(5, of(16, key, val)), of(18, key, key, key), of(6, of(6, of(14, key, of(14, key, key))))}
	right := []api.Expr{key, num(3), of(12, key, val), of(5, of(7, key, val))}
	for _, op := range []uint8{18, 7, 16, 14, 12} {
		for i := range 4 * 4 * 4 {
			for pick := range 6 {
				x, kinds := of(op), [4]int{}
				for _, k := range []int{i % 4, i / 4 % 4, i / 16}[:counts(op)] {
					l := [4][]api.Expr{argErr, accErr, typeErr, right}[k]
					x.Args = append(x.Args, l[(pick+len(x.Args))%len(l)])
					kinds[k]++
				}
				holds(t, x)
				switch {
				case kinds[0] > 0:
					wrong(t, x, api.ErrArg)
				case kinds[1] > 0:
					told(t, x, false, 0, api.ErrAcc)
				case kinds[2] > 0:
					wrong(t, x, api.ErrType)
				}
				holds(t, of(6, of(7, x, key)))
				holds(t, of(14, acc, of(6, of(5, x))))
				holds(t, of(18, of(6, key), x, acc))
			}
		}
	}
	for _, wrapped := range []func(x api.Expr) api.Expr{ // an error above, and another one beneath it
		func(x api.Expr) api.Expr { return of(6, of(7, x, key)) },
		func(x api.Expr) api.Expr { return of(5, of(5, of(6, of(5, x)))) },
		func(x api.Expr) api.Expr { return of(18, of(12, key, x), of(12, key, key), key) },
		func(x api.Expr) api.Expr { return of(7, of(6, key), of(5, x)) },
		func(x api.Expr) api.Expr { return of(7, of(5, x), of(6, key)) },
	} {
		wrong(t, wrapped(key), api.ErrType)
		for _, x := range accErr {
			told(t, wrapped(x), false, 0, api.ErrAcc)
			told(t, wrapped(x), true, 0, api.ErrType)
		}
		for _, x := range argErr {
			wrong(t, wrapped(x), api.ErrArg)
			wrong(t, of(7, acc, wrapped(x)), api.ErrArg)
			wrong(t, of(7, wrapped(x), acc), api.ErrArg)
		}
	}
	wrong(t, of(19, acc), api.ErrArg)
	wrong(t, of(4, acc), api.ErrArg)
	wrong(t, of(6, acc, acc), api.ErrArg)
	wrong(t, api.Expr{Op: 7, N: 1, Args: []api.Expr{acc, of(6, key)}}, api.ErrArg)
}

// TestSmall: P9.1, P9.2: all expressions of each Op whose Args are these, and of each Op whose Args are some of such.
func TestSmall(t *testing.T) {
	ones := []api.Expr{num(0), key, acc, {}, num(-1)}
	all := slices.Clone(ones)
	for op := uint8(5); op <= 19; op++ {
		for i := range 5 * 5 * 5 {
			x := of(op, ones[i%5], ones[i/5%5], ones[i/25])
			x.Args = x.Args[:min(3, max(1, counts(min(op, 18))))]
			if len(x.Args) == 3 || i < 25 && (len(x.Args) == 2 || i < 5) {
				holds(t, x)
				all = append(all, x)
			}
		}
	}
	var some []api.Expr // of those that are told alike, the first two
	met := map[[3]int]int{}
	for _, x := range all {
		ty, e := words(x, true)
		_, without := words(x, false)
		at := [3]int{int(ty), int(e), int(without)}
		if met[at]++; met[at] <= 2 {
			some = append(some, x)
		}
	}
	if len(met) != 7 {
		t.Error(met)
	}
	for op := uint8(5); op <= 18; op++ {
		for _, a := range some {
			for _, b := range some {
				for _, c := range some {
					holds(t, of(op, []api.Expr{a, b, c}[:counts(op)]...))
				}
			}
		}
		if t.Failed() {
			t.FailNow()
		}
	}
}

// picker picks numbers from one start.
type picker uint64

func (p *picker) of(n int) int {
	*p = *p*6364136223846793005 + 1442695040888963407
	return int(uint64(*p) >> 33 % uint64(n))
}

// grown is an expression of at most so many levels, of that type; with acc in it, perhaps, if with is so.
func (p *picker) grown(ty uint8, deep int, with bool) api.Expr {
	if deep == 1 || ty == 1 && p.of(6) == 0 {
		return []api.Expr{num(int64(p.of(1 << 30))), key, val, acc}[p.of(3+map[bool]int{true: 1}[with])]
	}
	for {
		op := uint8(5 + p.of(14))
		rows := table[op]
		row := rows[p.of(len(rows))]
		if number(row[len(row)-1]) != ty || deep == 2 && slices.Contains([]byte(row[:len(row)-1]), 'b') {
			continue
		}
		x := of(op)
		for i := range counts(op) {
			x.Args = append(x.Args, p.grown(number(row[i]), deep-1, with))
		}
		return x
	}
}

// each tells f of x and of each of its parts; all is x, and changed if the part is.
func each(x api.Expr, f func(all, part *api.Expr)) {
	var into func(part *api.Expr)
	into = func(part *api.Expr) {
		for i := range part.Args {
			into(&part.Args[i])
		}
		f(&x, part)
	}
	into(&x)
}

// TestParts: P9.3: a part of an expression that has a type has one, too; what has one without acc has the same one with it.
func TestParts(t *testing.T) {
	p := picker(9)
	accs := 0
	for range 1500 {
		deep := 2 + p.of(1+p.of(8))
		ty := uint8(1 + p.of(2))
		x := p.grown(ty, deep, p.of(2) == 0)
		told(t, x, true, ty, api.OK)
		if hasAcc(x) {
			accs++
			told(t, x, false, 0, api.ErrAcc)
		} else {
			told(t, x, false, ty, api.OK)
		}
		each(x, func(all, part *api.Expr) {
			with, e := kind.Of(*part, true)
			if e != api.OK || with != fits(*part) {
				t.Errorf("Of(%s, true) = %d, error %d, a part of %s", line(*part), with, e, line(*all))
			}
			without, e := kind.Of(*part, false)
			if e == api.OK && without != with || e != api.OK && (e != api.ErrAcc || without != 0) || (e == api.OK) == hasAcc(*part) {
				t.Errorf("Of(%s, false) = %d, error %d, with acc %d", line(*part), without, e, with)
			}
		})
		if t.Failed() {
			t.FailNow()
		}
	}
	if accs < 300 || accs > 1200 {
		t.Error(accs)
	}
}

// TestChanged: P9.1: expressions that have a type, with one part changed for one of any kind.
func TestChanged(t *testing.T) {
	p := picker(90)
	parts := [][]api.Expr{ofType('i'), ofType('b'), ofType('x'), mayNots(), {acc, of(12, acc, key), of(6, acc)}}
	many := map[api.Errno]int{}
	for range 20000 {
		x := p.grown(uint8(1+p.of(2)), 2+p.of(5), p.of(4) == 0)
		at := &x
		for len(at.Args) > 0 && p.of(4) > 0 {
			at = &at.Args[p.of(len(at.Args))]
		}
		switch p.of(4) {
		case 0:
			at.Op = uint8(p.of(20))
		case 1:
			at.Args = slices.Clone(at.Args)
			slices.Reverse(at.Args)
		default:
			l := parts[p.of(len(parts))]
			*at = l[p.of(len(l))]
		}
		_, e := words(x, false)
		many[e]++
		if holds(t, x); t.Failed() {
			t.FailNow()
		}
	}
	for _, e := range []api.Errno{0, 2, 90, 91} {
		if many[e] < 1000 {
			t.Error(many)
		}
	}
}

// TestKept: R3: what is handed in is not changed, nor what stands behind a list's end; that is no part of it.
func TestKept(t *testing.T) {
	l := []api.Expr{key, val, acc, {Op: 77, N: -1}}
	for many := range 5 {
		for op := range uint8(20) {
			x := api.Expr{Op: op, Args: l[:many]}
			holds(t, x)
		}
	}
	typed(t, api.Expr{Op: 7, Args: l[:2]}, api.TyInt)
	typed(t, api.Expr{Op: 5, Args: l[1:2]}, api.TyInt)
	typed(t, api.Expr{Op: 2, Args: l[:0]}, api.TyInt)
	typed(t, api.Expr{Op: 2, Args: []api.Expr{}}, api.TyInt)
	if !slices.EqualFunc(l, []api.Expr{{Op: 2}, {Op: 3}, {Op: 4}, {Op: 77, N: -1}}, alike) {
		t.Error(l)
	}
}

// TestOverlap: R1, P9.1: lists that have Args in common are told as such that have none.
func TestOverlap(t *testing.T) {
	l := []api.Expr{key, of(12, key, val), of(12, val, val), val, acc, of(6, key)}
	for i := range l {
		for j := i; j <= min(i+3, len(l)); j++ {
			for k := range l {
				for m := k; m <= min(k+3, len(l)); m++ {
					for op := range uint8(8) {
						x := of(7+op, of(18-uint8(j-i)%2, l[i:j]...), of(18-2*op, l[k:m]...))
						holds(t, x)
					}
					holds(t, of(18, l[1], of(18, l[i:j]...), of(18, l[k:m]...)))
				}
			}
		}
	}
}

// TestShared: R1: Args that are shared, so that there are more ways to a part than calls could go; each is asked often, as they must be gone over once.
func TestShared(t *testing.T) {
	less := of(12, key, val)
	for _, c := range []struct {
		op         uint8
		x          api.Expr
		with, bare api.Errno
		ty         uint8
	}{
		{7, key, 0, 0, 1}, {7, acc, 0, 90, 1}, {7, less, 91, 91, 0}, {7, of(12, acc, key), 91, 90, 0}, {7, num(-1), 2, 2, 0},
		{16, less, 0, 0, 2}, {16, of(12, acc, key), 0, 90, 2}, {16, key, 91, 91, 0}, {14, less, 0, 0, 2}, {18, less, 0, 0, 2}, {18, key, 91, 91, 0}, {18, acc, 91, 90, 0}, {0, key, 2, 2, 0}, {99, key, 2, 2, 0},
	} {
		for levels := 1; levels <= 60; levels++ {
			x := c.x
			for range levels {
				x = of(c.op, slices.Repeat([]api.Expr{x}, max(2, counts(c.op%19)))...)
			}
			ty, with, bare := c.ty, c.with, c.bare
			if depth := levels + 1 + min(1, len(c.x.Args)); depth > 16 {
				ty, with, bare = 0, 2, 2
			}
			for range 200 {
				if got, e := kind.Of(x, true); got != ty || e != with {
					t.Fatal(c.op, levels, got, e)
				}
				if got, e := kind.Of(x, false); got != ty && bare == 0 || got != 0 && bare != 0 || e != bare {
					t.Fatal(c.op, levels, got, e)
				}
				if kind.Is(x, true, 1) != (with == 0 && ty == 1) || kind.Is(x, false, 2) != (bare == 0 && ty == 2) || kind.Is(x, false, 0) {
					t.Fatal(c.op, levels)
				}
			}
		}
	}
}

// TestEndless: R1: expressions that have themselves in them, that are much too deep, or have many Args: ErrArg.
func TestEndless(t *testing.T) {
	asked := func(x api.Expr) {
		t.Helper()
		for _, with := range []bool{false, true} {
			if ty, e := kind.Of(x, with); ty != 0 || e != api.ErrArg || kind.Is(x, with, 0) || kind.Is(x, with, 1) || kind.Is(x, with, 2) {
				t.Error(x.Op, ty, e)
			}
		}
	}
	for _, op := range []uint8{0, 1, 4, 5, 6, 7, 14, 18, 19, 255} {
		for many := 1; many <= 12; many++ {
			ring := make([]api.Expr, many)
			for i := range ring {
				ring[i] = of(op, ring...)
			}
			asked(ring[0])
			asked(of(5, ring[0]))
			two, one := make([]api.Expr, many), []api.Expr{of(5, key)}
			for i := range two {
				two[i] = of(5, one...)
			}
			one[0] = of(op, two...)
			asked(one[0])
			asked(of(18, of(12, key, val), acc, one[0]))
		}
		x := key
		for range 1 << 20 {
			x = api.Expr{Op: op, Args: []api.Expr{x}}
		}
		asked(x)
	}
	asked(of(7, slices.Repeat([]api.Expr{key}, 1<<20)...))
	asked(of(1, slices.Repeat([]api.Expr{acc}, 1<<20)...))
}

// TestFull: R1, P9.1: as many parts as nine levels of ExIf have, none of them shared.
func TestFull(t *testing.T) {
	var full func(ty uint8, deep int) api.Expr
	full = func(ty uint8, deep int) api.Expr {
		switch {
		case deep > 2:
			return of(18, full(2, deep-1), full(ty, deep-1), full(ty, deep-1))
		case ty == 2:
			return of(12, key, val)
		}
		return of(5, num(7))
	}
	for ty := range uint8(3) {
		x := full(ty, 11)
		if got, e := kind.Of(x, false); got != max(1, ty) || e != api.OK {
			t.Error(ty, got, e)
		}
		last := &x
		for last.Op == 18 {
			last = &last.Args[2]
		}
		last.Args[0] = acc
		if got, e := kind.Of(x, false); got != 0 || e != api.ErrAcc {
			t.Error(ty, got, e)
		}
		if got, e := kind.Of(x, true); got != max(1, ty) || e != api.OK {
			t.Error(ty, got, e)
		}
		last.Args[0] = of(14, key, key)
		if got, e := kind.Of(x, false); got != 0 || e != api.ErrType {
			t.Error(ty, got, e)
		}
	}
}
