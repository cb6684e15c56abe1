package tell_test

import (
	"math"
	"slices"
	"strconv"
	"strings"
	"testing"

	"changeling/api"
	"changeling/expr"
	"changeling/tell"
)

const greatest = math.MaxInt64

var (
	key = api.Expr{Op: 2}
	val = api.Expr{Op: 3}
	acc = api.Expr{Op: 4}
)

func num(n int64) api.Expr { return api.Expr{Op: 1, N: n} }

func of(op uint8, args ...api.Expr) api.Expr { return api.Expr{Op: op, Args: args} }

// shown tells an expression, whatever it is like, so that a failed test shows it.
func shown(x api.Expr) string {
	s := "o" + strconv.Itoa(int(x.Op))
	if x.N != 0 {
		s += "#" + strconv.FormatInt(x.N, 10)
	}
	if len(x.Args) == 0 {
		return s
	}
	for i, a := range x.Args {
		s += map[bool]string{true: "(", false: " "}[i == 0] + shown(a)
	}
	return s + ")"
}

// copied shares nothing with x.
func copied(x api.Expr) api.Expr {
	y := api.Expr{Op: x.Op, N: x.N}
	for _, a := range x.Args {
		y.Args = append(y.Args, copied(a))
	}
	return y
}

func alike(a, b api.Expr) bool {
	return a.Op == b.Op && a.N == b.N && slices.EqualFunc(a.Args, b.Args, alike)
}

// told asks for a line, and for the way back.
func told(t *testing.T, x api.Expr, want string) {
	t.Helper()
	if s, e := tell.Line(x); s != want || e != 0 {
		t.Errorf("Line(%.300s) = %q, error %d, want %q", shown(x), s, e, want)
	}
	if y, at, e := expr.Parse(want); e != 0 || at != 0 || !alike(x, y) {
		t.Errorf("Parse(%q) = %.300s at %d, error %d, want %.300s", want, shown(y), at, e, shown(x))
	}
}

// wrong asks for an error: there is no line then.
func wrong(t *testing.T, x api.Expr, e api.Errno) {
	t.Helper()
	if s, err := tell.Line(x); s != "" || err != e {
		t.Errorf("Line(%.300s) = %q, error %d, want error %d", shown(x), s, err, e)
	}
}

// same asks Same of both texts, both ways round.
func same(t *testing.T, a, b string, want bool) {
	t.Helper()
	if tell.Same(a, b) != want || tell.Same(b, a) != want {
		t.Errorf("Same(%.500q, %.500q) = %v, the other way round %v, want %v", a, b, tell.Same(a, b), tell.Same(b, a), want)
	}
}

// read is the expression of a text that has one.
func read(t *testing.T, s string) api.Expr {
	t.Helper()
	x, _, e := expr.Parse(s)
	if e != api.OK {
		t.Fatalf("Parse(%q): error %d", s, e)
	}
	return x
}

// TestExamples: the chapter's.
func TestExamples(t *testing.T) {
	told(t, read(t, "1 + 2 * key"), "(1 + (2 * key))")
	told(t, read(t, "if ! (val < 3) then -1 else acc"), "(if (!(val < 3)) then (-1) else acc)")
}

// TestConstants: the errors and the limits by the numbers that the document says.
func TestConstants(t *testing.T) {
	wrong(t, api.Expr{}, 2)
	wrong(t, filler(401), 110)
	if api.ErrArg != 2 || api.ErrWide != 110 || api.MaxText != 400 || api.MaxDeep != 16 {
		t.Error(api.ErrArg, api.ErrWide, api.MaxText, api.MaxDeep)
	}
}

// TestOps: P11.1, P11.3: each Op, with all signs of chapter 8.
func TestOps(t *testing.T) {
	told(t, key, "key")
	told(t, val, "val")
	told(t, acc, "acc")
	told(t, api.Expr{Op: 2, Args: []api.Expr{}}, "key")
	told(t, of(5, key), "(-key)")
	told(t, of(6, val), "(!val)")
	told(t, of(7, key, val), "(key + val)")
	told(t, of(8, key, val), "(key - val)")
	told(t, of(9, key, val), "(key * val)")
	told(t, of(10, key, val), "(key / val)")
	told(t, of(11, key, val), "(key % val)")
	told(t, of(12, key, val), "(key < val)")
	told(t, of(13, key, val), "(key <= val)")
	told(t, of(14, key, val), "(key = val)")
	told(t, of(15, key, val), "(key != val)")
	told(t, of(16, key, val), "(key & val)")
	told(t, of(17, key, val), "(key | val)")
	told(t, of(18, key, val, acc), "(if key then val else acc)")
	told(t, of(5, of(5, num(1))), "(-(-1))")
	told(t, of(6, of(6, num(1))), "(!(!1))")
	told(t, of(5, of(6, num(1))), "(-(!1))")
	told(t, of(8, of(8, num(1), num(2)), num(3)), "((1 - 2) - 3)")
	told(t, of(8, num(1), of(8, num(2), num(3))), "(1 - (2 - 3))")
	told(t, of(18, of(18, num(1), num(2), num(3)), of(18, num(4), num(5), num(6)), of(18, num(7), num(8), num(9))), "(if (if 1 then 2 else 3) then (if 4 then 5 else 6) else (if 7 then 8 else 9))")
}

// TestNumbers: P11.1: digits to the base 10.
func TestNumbers(t *testing.T) {
	for n := range int64(1200) {
		told(t, num(n), strconv.Itoa(int(n)))
	}
	told(t, num(0), "0")
	told(t, num(9), "9")
	told(t, num(10), "10")
	told(t, num(greatest), "9223372036854775807")
	told(t, num(greatest-1), "9223372036854775806")
	for zeros, n := 0, int64(1); zeros <= 18; zeros, n = zeros+1, n*10 {
		told(t, num(n), "1"+strings.Repeat("0", zeros))
		if zeros > 0 {
			told(t, num(n-1), strings.Repeat("9", zeros))
		}
	}
	for two := range 63 {
		told(t, num(1<<two), strconv.FormatUint(1<<two, 10))
	}
	told(t, of(5, num(0)), "(-0)")
	told(t, of(5, num(greatest)), "(-9223372036854775807)")
	wrong(t, num(-1), api.ErrArg)
	wrong(t, num(math.MinInt64), api.ErrArg)
}

// TestDeep: P11.1: just MaxDeep deep, and one more.
func TestDeep(t *testing.T) {
	minus, not, left, right := num(7), key, val, acc
	for deep := 1; deep <= 20; deep++ {
		many := deep - 1
		if deep <= 16 {
			told(t, minus, strings.Repeat("(-", many)+"7"+strings.Repeat(")", many))
			told(t, not, strings.Repeat("(!", many)+"key"+strings.Repeat(")", many))
			told(t, left, strings.Repeat("(", many)+"val"+strings.Repeat(" % 3)", many))
			told(t, right, strings.Repeat("(key != ", many)+"acc"+strings.Repeat(")", many))
		} else {
			wrong(t, minus, api.ErrArg)
			wrong(t, not, api.ErrArg)
			wrong(t, left, api.ErrArg)
			wrong(t, right, api.ErrArg)
		}
		minus, not, left, right = of(5, minus), of(6, not), of(11, left, num(3)), of(15, key, right)
	}
	for place := range 3 {
		x := num(5)
		ahead := []string{"(if ", "(if 1 then ", "(if 1 then 1 else "}[place]
		behind := []string{" then 1 else 1)", " else 1)", ")"}[place]
		for many := 0; many <= 15; many++ {
			told(t, x, strings.Repeat(ahead, many)+"5"+strings.Repeat(behind, many))
			l := []api.Expr{num(1), num(1), num(1)}
			l[place] = x
			x = of(18, l...)
		}
		wrong(t, x, api.ErrArg)
	}
}

// filler is an expression whose line has just so many bytes, from 1 on.
func filler(bytes int) api.Expr {
	if bytes <= 19 {
		n := int64(1)
		for range bytes - 1 {
			n *= 10
		}
		return num(n)
	}
	left := (bytes - 5) / 2
	return of(9, filler(left), filler(bytes-5-left))
}

// TestFiller: that fillers are what they are said to be.
func TestFiller(t *testing.T) {
	for bytes := 1; bytes <= 400; bytes++ {
		if s, e := tell.Line(filler(bytes)); len(s) != bytes || e != 0 {
			t.Fatal(bytes, len(s), e)
		}
	}
	told(t, filler(400), line(filler(400)))
}

// around is how many bytes an Op's line has beside those of its Args.
func around(op uint8) int {
	return []int{0, 0, 0, 0, 0, 3, 3, 5, 5, 5, 5, 5, 5, 6, 5, 6, 5, 5, 17}[op]
}

// many is of how many Args an Op is.
func many(op uint8) int {
	switch {
	case op <= 4:
		return 0
	case op <= 6:
		return 1
	case op <= 17:
		return 2
	}
	return 3
}

// places tells f of each Op that has Args, and of each place of these.
func places(f func(op uint8, place int)) {
	for op := uint8(5); op <= 18; op++ {
		for place := range many(op) {
			f(op, place)
		}
	}
}

// within is x so many levels beneath others, each of that Op, at that place; the other Args are these.
func within(x api.Expr, op uint8, place, levels int, other api.Expr) api.Expr {
	for range levels {
		y := of(op, slices.Repeat([]api.Expr{other}, many(op))...)
		y.Args[place] = x
		x = y
	}
	return x
}

// TestWide: P11.1: lines that are just MaxText bytes long, one byte more, and many more, by each Op and each place in which it is told last.
func TestWide(t *testing.T) {
	places(func(op uint8, place int) {
		for _, other := range []api.Expr{key, filler(1), filler(19), filler(40), of(18, of(12, key, val), num(1), acc)} {
			for _, levels := range []int{1, 2, 5, 9} {
				rest := 400 - levels*(around(op)+(many(op)-1)*len(line(other)))
				if rest < 2 {
					continue
				}
				for _, less := range []int{0, 1, 2} {
					if rest > less {
						x := within(filler(rest-less), op, place, levels, other)
						if s := line(x); len(s) == 400-less {
							told(t, x, s)
						} else {
							t.Fatal(shown(x), len(s), less)
						}
					}
				}
				for _, more := range []int{1, 2, 3, 17, 100, 401, 1000} {
					wrong(t, within(filler(rest+more), op, place, levels, other), api.ErrWide)
				}
			}
		}
	})
	for op := uint8(7); op <= 17; op++ { // too wide by the first one alone, by the last one alone, by both together
		wrong(t, of(op, filler(5000), key), api.ErrWide)
		wrong(t, of(op, key, filler(5000)), api.ErrWide)
		wrong(t, of(op, filler(200), filler(200)), api.ErrWide)
		wrong(t, of(op, filler(400), num(1)), api.ErrWide)
		wrong(t, of(op, num(1), filler(400)), api.ErrWide)
	}
	wrong(t, of(5, filler(398)), api.ErrWide)
	wrong(t, of(6, filler(398)), api.ErrWide)
	told(t, of(6, filler(397)), "(!"+line(filler(397))+")")
}

// TestErrors: P11.1: what may not be is ErrArg, also at each place within others, also where the line would be too wide.
func TestErrors(t *testing.T) {
	mayNot := []api.Expr{{}, num(-1), {Op: 2, N: 1}, {Op: 4, N: -1}, {Op: 7, N: 1, Args: []api.Expr{key, val}}, of(1, key), of(2, key), of(3, val, val), of(5), of(5, key, key), of(6), of(6, key, key, key), of(7, key), of(7), of(7, key, key, key), of(17, key), of(17, key, key, key), of(18), of(18, key, key), of(18, key, key, key, key), of(19), of(19, key), of(19, key, key), of(20, key, key), of(255, key, key), {Op: 18, N: 3, Args: []api.Expr{key, key, key}}}
	for _, x := range mayNot {
		wrong(t, x, api.ErrArg)
		places(func(op uint8, place int) {
			for _, other := range []api.Expr{key, filler(400), filler(401), filler(3000)} {
				for _, levels := range []int{1, 2, 5} {
					wrong(t, within(x, op, place, levels, other), api.ErrArg)
				}
			}
		})
	}
	places(func(op uint8, place int) { // too deep and too wide
		wrong(t, within(key, op, place, 16, filler(300)), api.ErrArg)
		wrong(t, within(filler(401), op, place, 12, key), api.ErrArg)
		wrong(t, within(within(key, 5, 0, 15, key), op, place, 1, filler(401)), api.ErrArg)
		wrong(t, within(filler(401), op, place, 11, num(1)), api.ErrArg)
		wrong(t, within(filler(401), op, place, 10, num(1)), api.ErrWide)
	})
}
