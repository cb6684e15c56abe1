package expr_test

import (
	"math"
	"slices"
	"strings"
	"testing"

	"changeling/api"
	"changeling/expr"
)

// counts is how many Args an Op has; -1, if there is no such Op.
func counts(op int) int {
	if op >= 19 {
		return -1
	}
	return []int{-1, 0, 0, 0, 0, 1, 1, 2, 2, 2, 2, 2, 2, 2, 2, 2, 2, 2, 3}[op]
}

// ones is so many Args, all of which may be.
func ones(many int) []api.Expr {
	var l []api.Expr
	for i := range many {
		l = append(l, []api.Expr{num(int64(i)), key, val, acc}[i%4])
	}
	return l
}

// asks asks whether x may be, and how deep it is, and that it is the same as itself and as a copy of it; alone, and as an Arg of each place.
func asks(t *testing.T, x api.Expr, may bool) {
	t.Helper()
	for _, y := range []api.Expr{x, of(5, x), of(7, x, key), of(17, num(0), x), of(18, x, acc, key), of(18, val, x, key), of(18, val, key, x), of(6, of(12, num(1), of(18, key, key, x)))} {
		before := copied(y)
		if got := expr.May(y); got != (may && depth(y) <= 16) {
			t.Errorf("May(%s) = %v", line(y), got)
		}
		if got := expr.Deep(y); got != min(depth(y), 17) {
			t.Errorf("Deep(%s) = %d", line(y), got)
		}
		if !expr.Same(y, y) || !expr.Same(y, before) || !expr.Same(before, y) {
			t.Errorf("%s is not the same", line(y))
		}
		if !alike(y, before) {
			t.Errorf("%s was %s", line(y), line(before))
		}
	}
}

// copied shares nothing with x.
func copied(x api.Expr) api.Expr {
	y := api.Expr{Op: x.Op, N: x.N}
	for _, a := range x.Args {
		y.Args = append(y.Args, copied(a))
	}
	return y
}

// TestMayEachOp: P8.2: each Op there is or is not, with each number of Args, none of them or an empty list, and N of all kinds.
func TestMayEachOp(t *testing.T) {
	for op := range 256 {
		for many := range 6 {
			for _, n := range []int64{math.MinInt64, -2, -1, 0, 1, 2, 1 << 32, math.MaxInt64} {
				x := api.Expr{Op: uint8(op), N: n, Args: ones(many)}
				may := many == counts(op) && n >= 0 && (n == 0 || op == 1)
				asks(t, x, may)
				if many == 0 {
					x.Args = []api.Expr{}
					asks(t, x, may)
				}
				if many > 2 {
					x.Args = ones(many)[:2:many] // what stands behind a list's end is none of it
					asks(t, x, counts(op) == 2 && n == 0)
				}
			}
		}
	}
	asks(t, api.Expr{}, false)
	asks(t, of(7, ones(1000)...), false)
	asks(t, of(18, ones(4)...), false)
}

// TestMayParts: P8.2: what may not be at each place within another one.
func TestMayParts(t *testing.T) {
	wrong := []api.Expr{{}, {Op: 19}, {Op: 255}, num(-1), {Op: 2, N: 1}, {Op: 3, N: -1}, {Op: 4, N: 7}, of(1, key), of(2, key), of(5), of(5, key, key), of(6), of(6, key, val), of(7), of(7, key), of(9, key, key, key), of(18, key, key), of(18), {Op: 7, N: 1, Args: ones(2)}, {Op: 18, N: -1, Args: ones(3)}}
	for op := 5; op < 19; op++ {
		for i := range counts(op) {
			for _, w := range wrong {
				x := of(uint8(op), ones(counts(op))...)
				x.Args[i] = w
				asks(t, x, false)
				x.Args[i] = of(5, of(17, key, w))
				asks(t, x, false)
			}
			x := of(uint8(op), ones(counts(op))...)
			x.Args[i] = of(18, num(math.MaxInt64), of(5, key), of(15, val, acc))
			asks(t, x, true)
		}
	}
	p := picker(5)
	for range 3000 {
		x := p.grown(1 + p.of(9))
		asks(t, x, true)
		at := &x
		for len(at.Args) > 0 && p.of(4) > 0 {
			at = &at.Args[p.of(len(at.Args))]
		}
		*at = wrong[p.of(len(wrong))]
		asks(t, x, false)
	}
}

// TestMayDeep: P8.2: expressions up to MaxDeep, one more, and much deeper, by each Op and each of its places.
func TestMayDeep(t *testing.T) {
	for op := 5; op < 19; op++ {
		for place := range counts(op) {
			x := key
			for deep := 2; deep < 200; deep++ {
				y := of(uint8(op), ones(counts(op))...)
				y.Args[place] = x
				x = y
				if may, d := expr.May(x), expr.Deep(x); may != (deep <= 16) || d != min(deep, 17) || !expr.Same(x, copied(x)) {
					t.Fatal(op, place, deep, may, d)
				}
			}
		}
	}
	for _, many := range []int{15, 16, 17, 1000, 1 << 20} {
		x, y, z := key, key, val
		for range many - 1 {
			x, y, z = api.Expr{Op: 77, N: -4, Args: []api.Expr{x}}, api.Expr{Op: 77, N: -4, Args: []api.Expr{y}}, api.Expr{Op: 77, N: -4, Args: []api.Expr{z}}
		}
		if expr.May(x) || expr.Deep(x) != min(many, 17) || !expr.Same(x, y) || expr.Same(x, z) {
			t.Error(many, expr.May(x), expr.Deep(x))
		}
	}
	if expr.Deep(api.Expr{}) != 1 || expr.Deep(api.Expr{Args: []api.Expr{}}) != 1 || expr.Deep(of(0, api.Expr{})) != 2 || expr.Deep(of(1, key, val, of(9, key))) != 3 {
		t.Error("expressions that may not be")
	}
	wide := of(7, ones(5000)...)
	wide.Args[4000] = deepest(5, 9)
	if expr.Deep(wide) != 10 {
		t.Error(expr.Deep(wide))
	}
}

// TestShared: R1, P8.2: Args that are shared, so that there are more ways to a part than a call could go, and such as have themselves in them.
func TestShared(t *testing.T) {
	for many := 1; many <= 40; many++ {
		for _, op := range []uint8{7, 18, 0} {
			x, y := key, key
			for range many - 1 {
				l, m := slices.Repeat([]api.Expr{x}, max(counts(int(op)), 2)), slices.Repeat([]api.Expr{y}, max(counts(int(op)), 2))
				if op == 0 {
					l, m = slices.Repeat(l, 10), slices.Repeat(m, 10)
				}
				x, y = of(op, l...), of(op, m...)
			}
			if may, deep := expr.May(x), expr.Deep(x); may != (many <= 16 && (op != 0 || many == 1)) || deep != min(many, 17) {
				t.Error(op, many, may, deep)
			}
			if !expr.Same(x, y) || expr.Same(x, of(5, x)) || expr.Same(of(5, y), x) {
				t.Error(op, many, "not the same")
			}
		}
	}
	ring := func(op uint8, many, long int) api.Expr {
		first := make([]api.Expr, many)
		l := first
		for range long - 1 {
			next := make([]api.Expr, many)
			for i := range l {
				l[i] = of(op, next...)
			}
			l = next
		}
		for i := range l {
			l[i] = of(op, first...)
		}
		return of(op, first...)
	}
	for _, op := range []uint8{1, 5, 7, 18, 99} {
		for many := 1; many <= 12; many++ {
			a, b, other := ring(op, many, 3), ring(op, many, 7), ring(op+1, many, 3)
			if expr.May(a) || expr.Deep(a) != 17 {
				t.Error(op, many, expr.May(a), expr.Deep(a))
			}
			if !expr.Same(a, a) || !expr.Same(a, b) || expr.Same(a, other) || expr.Same(other, b) || expr.Same(a, of(op, ones(many)...)) || expr.Same(a, ring(op, many+1, 3)) {
				t.Error(op, many, "the same, or not")
			}
		}
	}
	l := []api.Expr{key, val, key, val} // the same list, from other places
	if x := of(5, of(7, l[0:2]...), of(7, l[1:3]...)); expr.Same(x, of(5, of(7, l[0:2]...), of(7, l[2:4]...))) || !expr.Same(x, copied(x)) {
		t.Error("places of one list")
	}
	if x := of(7, of(5, l[0:1]...), of(6, of(5, l[0:1]...))); expr.Deep(x) != 4 || !expr.May(x) {
		t.Error("one that stands deeper as well")
	}
	deep := []api.Expr{deepest(5, 14)}
	for _, x := range []api.Expr{of(7, of(5, deep...), of(5, of(5, deep...))), of(7, of(5, of(5, deep...)), of(5, deep...))} {
		if expr.Deep(x) != 17 || expr.May(x) || expr.Deep(x.Args[0]) < 15 || !expr.May(x.Args[0]) || !expr.May(x.Args[1]) {
			t.Error("one that is too deep where it stands deeper")
		}
	}
}

// TestSame: P8.2: expressions that differ in one place alone, at each of their places; none and an empty list are alike.
func TestSame(t *testing.T) {
	differ := func(a, b api.Expr) {
		t.Helper()
		if expr.Same(a, b) || expr.Same(b, a) || !expr.Same(a, a) || !expr.Same(b, b) || !expr.Same(a, copied(a)) {
			t.Errorf("%s and %s", line(a), line(b))
		}
	}
	p := picker(21)
	for range 400 {
		x := p.grown(1 + p.of(6))
		for _, change := range []func(y *api.Expr){
			func(y *api.Expr) { y.Op++ },
			func(y *api.Expr) { y.Op ^= 128 },
			func(y *api.Expr) { y.N++ },
			func(y *api.Expr) { y.N = ^y.N },
			func(y *api.Expr) { y.N ^= 1 << 32 },
			func(y *api.Expr) { y.Args = append(y.Args, key) },
			func(y *api.Expr) { y.Args = append(y.Args, api.Expr{}) },
			func(y *api.Expr) { y.Args = slices.Concat([]api.Expr{{Op: 200}}, y.Args) },
			func(y *api.Expr) { y.Args = ones(1 + len(y.Args)) },
			func(y *api.Expr) { *y = of(5, *y) },
		} {
			each(copied(x), func(all, y *api.Expr) {
				kept := *y
				change(y)
				differ(x, *all)
				*y = kept
			})
		}
		each(copied(x), func(all, y *api.Expr) {
			for i := range y.Args {
				kept := y.Args
				y.Args = slices.Delete(slices.Clone(kept), i, i+1)
				differ(x, *all)
				y.Args = slices.Clone(kept)
				if slices.Reverse(y.Args); !slices.EqualFunc(y.Args, kept, alike) {
					differ(x, *all)
				}
				y.Args = kept
			}
			if kept := y.Args; len(kept) == 0 {
				for _, y.Args = range [][]api.Expr{nil, {}, make([]api.Expr, 0, 5)} {
					if !expr.Same(x, *all) || !expr.Same(*all, x) {
						t.Errorf("%s: none, and an empty list", line(x))
					}
				}
				y.Args = kept
			}
		})
		if t.Failed() {
			t.FailNow()
		}
	}
	differ(num(0), num(1))
	differ(num(0), api.Expr{})
	differ(key, val)
	differ(of(7, key, val), of(7, val, key))
	differ(of(7, key, val), of(8, key, val))
	differ(api.Expr{Op: 2}, api.Expr{Op: 2, N: 1})
	differ(num(math.MinInt64), num(math.MaxInt64))
	if !expr.Same(api.Expr{}, api.Expr{}) || !expr.Same(api.Expr{Op: 200, N: -1}, api.Expr{Op: 200, N: -1, Args: []api.Expr{}}) {
		t.Error("such as may not be")
	}
}

// each tells f of x and of each of its parts; all is x, and changed if the part is.
func each(x api.Expr, f func(all, part *api.Expr)) {
	var into func(part *api.Expr)
	into = func(part *api.Expr) {
		for i := range part.Args {
			into(&part.Args[i])
		}
		f(&x, part)
	}
	into(&x)
}

// TestNobodysElse: R3, R5: what Parse told is nobody else's, none of its lists has a part of another one, and it hangs on nothing but the text.
func TestNobodysElse(t *testing.T) {
	const s = "if key < 3 then -val else if acc then 1 + 2 * (key - 7) else !acc & 1 = 2"
	want, _, _ := expr.Parse(s)
	want = copied(want)
	x, _, _ := expr.Parse(s)
	other, _, _ := expr.Parse(s)
	var lists [][]api.Expr
	var spoil func(y *api.Expr)
	spoil = func(y *api.Expr) {
		lists = append(lists, y.Args)
		for i := range y.Args {
			spoil(&y.Args[i])
		}
		_ = append(y.Args, api.Expr{Op: 99})
		if all := y.Args[:cap(y.Args)]; len(all) > 0 {
			clear(all[len(y.Args):])
		}
		*y = api.Expr{Op: 99, N: 99}
	}
	spoil(&other)
	refused(t, "key val", 4, api.ErrSyntax)
	refused(t, strings.Repeat("-", 16)+"1", 0, api.ErrDeep)
	if !alike(x, want) {
		t.Error(line(x))
	}
	met := map[*api.Expr]bool{}
	for _, l := range lists {
		for i := range l {
			if met[&l[i]] {
				t.Error("a list has a part of another one")
			}
			met[&l[i]] = true
		}
	}
	reads(t, s, want)
}
