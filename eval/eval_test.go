package eval_test

import (
	"math"
	"slices"
	"strconv"
	"testing"

	"changeling/api"
	"changeling/eval"
	"changeling/expr"
)

const (
	least    = math.MinInt64
	greatest = math.MaxInt64
)

var (
	key = api.Expr{Op: 2}
	val = api.Expr{Op: 3}
	acc = api.Expr{Op: 4}
	yes = of(14, num(1), num(1))
	no  = of(15, num(1), num(1))
)

func num(n int64) api.Expr { return api.Expr{Op: 1, N: n} }

func of(op uint8, args ...api.Expr) api.Expr { return api.Expr{Op: op, Args: args} }

// truth is an expression that comes to that.
func truth(is bool) api.Expr {
	if is {
		return yes
	}
	return no
}

// read is the expression of a text that has one.
func read(t *testing.T, s string) api.Expr {
	t.Helper()
	x, _, e := expr.Parse(s)
	if e != api.OK {
		t.Fatalf("Parse(%q): error %d", s, e)
	}
	return x
}

// line tells an expression so that a failed test shows it.
func line(x api.Expr) string {
	s := "o" + strconv.Itoa(int(x.Op))
	if x.N != 0 {
		s += "#" + strconv.FormatInt(x.N, 10)
	}
	if len(x.Args) == 0 {
		return s
	}
	for i, a := range x.Args {
		s += map[bool]string{true: "(", false: " "}[i == 0] + line(a)
	}
	return s + ")"
}

// copied shares nothing with x.
func copied(x api.Expr) api.Expr {
	y := api.Expr{Op: x.Op, N: x.N}
	for _, a := range x.Args {
		y.Args = append(y.Args, copied(a))
	}
	return y
}

func alike(a, b api.Expr) bool {
	return a.Op == b.Op && a.N == b.N && slices.EqualFunc(a.Args, b.Args, alike)
}

// told asks all three calls for what Do is to answer.
func told(t *testing.T, x api.Expr, env api.Env, want api.Value, e api.Errno) {
	t.Helper()
	if got, err := eval.Do(x, env); got != want || err != e {
		t.Errorf("Do(%.300s, %v) = %v, error %d, want %v, error %d", line(x), env, got, err, want, e)
	}
	if got := eval.Int(x, env); got != want.N {
		t.Errorf("Int(%.300s, %v) = %d, want %d", line(x), env, got, want.N)
	}
	if got := eval.Bool(x, env); got != want.True {
		t.Errorf("Bool(%.300s, %v) = %v, want %v", line(x), env, got, want.True)
	}
}

// number asks for a number: Bool is false then.
func number(t *testing.T, x api.Expr, env api.Env, n int64) {
	t.Helper()
	told(t, x, env, api.Value{Type: 1, N: n}, 0)
}

// is asks for a truth: Int is 0 then.
func is(t *testing.T, x api.Expr, env api.Env, want bool) {
	t.Helper()
	told(t, x, env, api.Value{Type: 2, True: want}, 0)
}

// wrong asks for an error: all else is zero then.
func wrong(t *testing.T, x api.Expr, e api.Errno) {
	t.Helper()
	for _, env := range []api.Env{{}, {Key: 7, Val: 2, Acc: -3}} {
		told(t, x, env, api.Value{}, e)
	}
}

// TestExamples: the chapter's.
func TestExamples(t *testing.T) {
	env := api.Env{Key: 7, Val: 2}
	number(t, read(t, "key / val"), env, 3)
	number(t, read(t, "key % 0"), env, 0)
	number(t, read(t, "-key"), env, -7)
	is(t, read(t, "key < val"), env, false)
	number(t, read(t, "if key < val then 1 else 2"), env, 2)
	if eval.Int(read(t, "1 < 2"), env) != 0 || !eval.Bool(read(t, "1 < 2"), env) || eval.Bool(read(t, "1"), env) {
		t.Error("Int(1 < 2), Bool(1 < 2) or Bool(1)")
	}
}

// TestConstants: the types and the errors by the numbers that the chapters say.
func TestConstants(t *testing.T) {
	if v, e := eval.Do(num(5), api.Env{}); v.Type != 1 || e != 0 {
		t.Error(v, e)
	}
	if v, e := eval.Do(yes, api.Env{}); v.Type != 2 || e != 0 {
		t.Error(v, e)
	}
	wrong(t, api.Expr{}, 2)
	wrong(t, of(6, key), 91)
	if api.TyInt != 1 || api.TyBool != 2 || api.ErrArg != 2 || api.ErrAcc != 90 || api.ErrType != 91 {
		t.Error(api.TyInt, api.TyBool, api.ErrArg, api.ErrAcc, api.ErrType)
	}
}

// TestTexts: P10.1: ordinary expressions.
func TestTexts(t *testing.T) {
	env := api.Env{Key: 7, Val: -2, Acc: 100}
	for s, n := range map[string]int64{
		"0": 0, "12": 12, "9223372036854775807": greatest, "key": 7, "val": -2, "acc": 100, "-val": 2, "--val": -2, "---5": -5,
		"key+val": 5, "key-val": 9, "key*val": -14, "key/val": -3, "key%val": 1, "val/key": 0, "val%key": -2, "acc/0": 0, "acc%(key-7)": 0, "0/0": 0, "0%0": 0,
		"1+2*3-4/5%6": 7, "(1+2)*(3-4)": -3, "1-2-3": -4, "1-(2-3)": 2, "100/7/3": 4, "100/(7/3)": 50, "100%7%2": 0, "acc+val*key": 86,
		"if key<val then 1 else 2": 2, "if val<key then acc else 1/0": 100, "if key=7&val=2|acc=100 then 3 else 4": 3, "if 1<2 then if 2<1 then 1 else 2 else 3": 2,
		"1+if key<=7 then 10 else 20": 11, "acc+val": 98, "if acc<val then acc else val": -2, "9223372036854775807+1": least, "-9223372036854775807-2": greatest,
		"9223372036854775807*2": -2, "-(-9223372036854775807-1)": least, "(-9223372036854775807-1)/-1": least, "(-9223372036854775807-1)%-1": 0,
	} {
		number(t, read(t, s), env, n)
	}
	for s, want := range map[string]bool{
		"1<2": true, "2<1": false, "1<1": false, "1<=1": true, "2<=1": false, "1<=2": true, "key=7": true, "key=8": false, "key!=7": false, "key!=8": true,
		"!(1<2)": false, "!!(1<2)": true, "1<2&3<4": true, "1<2&4<3": false, "2<1&3<4": false, "2<1|4<3": false, "2<1|3<4": true, "1<2|4<3": true,
		"(1<2)=(3<4)": true, "(1<2)=(4<3)": false, "(2<1)=(4<3)": true, "(1<2)!=(3<4)": false, "(1<2)!=(4<3)": true, "val<0&!(acc<0)": true, "val=-2": true,
		"if key<val then key=7 else key=8": false, "if val<key then key=7 else key=8": true, "(if val<key then 5 else 6)=5": true, "acc/key=14&acc%key=2": true,
	} {
		is(t, read(t, s), env, want)
	}
}

// TestLeaves: P10.1: what is handed in, at the least number, 0 and the greatest, and a few others; the three are not mixed up.
func TestLeaves(t *testing.T) {
	some := []int64{least, least + 1, -1, 0, 1, 42, 1 << 32, greatest - 1, greatest}
	for _, a := range some {
		for _, b := range some {
			for _, c := range some {
				env := api.Env{Key: a, Val: b, Acc: c}
				number(t, key, env, a)
				number(t, val, env, b)
				number(t, acc, env, c)
				number(t, num(5), env, 5)
			}
		}
		if a >= 0 {
			number(t, num(a), api.Env{Key: 1, Val: 2, Acc: 3}, a)
			number(t, num(a), api.Env{}, a)
		}
	}
}

// edges are numbers at which sums, products and quotients are of different kinds.
func edges() []int64 {
	l := []int64{least, least + 1, least + 2, least / 2, least/2 - 1, least/2 + 1, -1 << 32, -3037000500, -1000, greatest, greatest - 1, greatest - 2, greatest / 2, greatest/2 + 1, greatest/2 + 2, 1 << 32, 1<<32 - 1, 3037000499, 3037000500, 1000}
	for n := int64(-8); n <= 8; n++ {
		l = append(l, n)
	}
	return l
}

// pairs are the ways to hand in two numbers: each two of key, val and acc.
func pairs(f func(left, right api.Expr, env func(a, b int64) api.Env)) {
	f(key, val, func(a, b int64) api.Env { return api.Env{Key: a, Val: b, Acc: 77} })
	f(val, key, func(a, b int64) api.Env { return api.Env{Key: b, Val: a, Acc: 77} })
	f(val, acc, func(a, b int64) api.Env { return api.Env{Key: 77, Val: a, Acc: b} })
	f(acc, key, func(a, b int64) api.Env { return api.Env{Key: b, Val: 77, Acc: a} })
}

// TestNumbers: P10.1: what each Op makes of all these numbers.
func TestNumbers(t *testing.T) {
	pairs(func(left, right api.Expr, env func(a, b int64) api.Env) {
		for _, a := range edges() {
			number(t, of(5, left), env(a, 1), wrapped("-", 0, a))
			number(t, of(5, of(5, left)), env(a, 1), a)
			for _, b := range edges() {
				number(t, of(7, left, right), env(a, b), wrapped("+", a, b))
				number(t, of(8, left, right), env(a, b), wrapped("-", a, b))
				number(t, of(9, left, right), env(a, b), wrapped("*", a, b))
				number(t, of(10, left, right), env(a, b), wrapped("/", a, b))
				number(t, of(11, left, right), env(a, b), wrapped("%", a, b))
				is(t, of(12, left, right), env(a, b), a < b)
				is(t, of(13, left, right), env(a, b), a < b || a == b)
				is(t, of(14, left, right), env(a, b), a == b)
				is(t, of(15, left, right), env(a, b), a != b)
			}
			if t.Failed() {
				t.FailNow()
			}
		}
	})
}

// TestOver: P10.1: where int64 runs over, by hand.
func TestOver(t *testing.T) {
	env := func(a, b int64) api.Env { return api.Env{Key: a, Val: b} }
	number(t, of(5, key), env(least, 0), least)
	number(t, of(5, key), env(greatest, 0), least+1)
	number(t, of(5, key), env(least+1, 0), greatest)
	number(t, of(7, key, val), env(greatest, 1), least)
	number(t, of(7, key, val), env(greatest, greatest), -2)
	number(t, of(7, key, val), env(least, -1), greatest)
	number(t, of(7, key, val), env(least, least), 0)
	number(t, of(7, key, val), env(least, greatest), -1)
	number(t, of(8, key, val), env(least, 1), greatest)
	number(t, of(8, key, val), env(greatest, -1), least)
	number(t, of(8, key, val), env(0, least), least)
	number(t, of(8, key, val), env(-1, least), greatest)
	number(t, of(8, key, val), env(least, greatest), 1)
	number(t, of(8, key, val), env(least, least), 0)
	number(t, of(9, key, val), env(least, -1), least)
	number(t, of(9, key, val), env(-1, least), least)
	number(t, of(9, key, val), env(least, 2), 0)
	number(t, of(9, key, val), env(least, 3), least)
	number(t, of(9, key, val), env(greatest, 2), -2)
	number(t, of(9, key, val), env(greatest, greatest), 1)
	number(t, of(9, key, val), env(least, least), 0)
	number(t, of(9, key, val), env(1<<32, 1<<32), 0)
	number(t, of(9, key, val), env(1<<32, 1<<31), least)
	number(t, of(9, key, val), env(3037000500, 3037000500), -9223372036709301616)
	number(t, of(9, key, val), env(3037000499, 3037000499), 9223372030926249001)
}

// TestDivided: P10.1: numbers below 0 on either side, and a second one of 0 and of -1, by hand.
func TestDivided(t *testing.T) {
	for _, c := range [][4]int64{
		{7, 2, 3, 1}, {-7, 2, -3, -1}, {7, -2, -3, 1}, {-7, -2, 3, -1}, {6, 3, 2, 0}, {-6, 3, -2, 0}, {6, -3, -2, 0}, {-6, -3, 2, 0}, {1, 2, 0, 1}, {-1, 2, 0, -1}, {1, -2, 0, 1}, {-1, -2, 0, -1},
		{7, 0, 0, 0}, {-7, 0, 0, 0}, {0, 0, 0, 0}, {1, 0, 0, 0}, {least, 0, 0, 0}, {greatest, 0, 0, 0},
		{7, -1, -7, 0}, {-7, -1, 7, 0}, {0, -1, 0, 0}, {least, -1, least, 0}, {least + 1, -1, greatest, 0}, {greatest, -1, -greatest, 0},
		{least, 1, least, 0}, {least, least, 1, 0}, {greatest, least, 0, greatest}, {least, greatest, -1, -1}, {least, 2, -1 << 62, 0}, {least, -2, 1 << 62, 0}, {least, 10, -922337203685477580, -8}, {0, 5, 0, 0}, {0, least, 0, 0}, {-1, least, 0, -1},
	} {
		env := api.Env{Key: c[0], Val: c[1]}
		number(t, of(10, key, val), env, c[2])
		number(t, of(11, key, val), env, c[3])
	}
}

// TestCompared: P10.1: numbers that are less, the same and more, by hand.
func TestCompared(t *testing.T) {
	for _, c := range []struct {
		a, b                  int64
		less, leq, same, note bool
	}{
		{1, 2, true, true, false, true}, {2, 2, false, true, true, false}, {3, 2, false, false, false, true},
		{-1, 1, true, true, false, true}, {1, -1, false, false, false, true}, {-2, -1, true, true, false, true}, {0, 0, false, true, true, false},
		{least, greatest, true, true, false, true}, {greatest, least, false, false, false, true}, {least, least, false, true, true, false}, {greatest, greatest, false, true, true, false},
		{least, least + 1, true, true, false, true}, {least + 1, least, false, false, false, true}, {greatest - 1, greatest, true, true, false, true}, {greatest, greatest - 1, false, false, false, true},
		{0, 1 << 32, true, true, false, true}, {1, 1<<32 + 1, true, true, false, true}, {-1, 1<<32 - 1, true, true, false, true},
	} {
		env := api.Env{Key: c.a, Val: c.b}
		is(t, of(12, key, val), env, c.less)
		is(t, of(13, key, val), env, c.leq)
		is(t, of(14, key, val), env, c.same)
		is(t, of(15, key, val), env, c.note)
	}
}

// TestTruths: P10.1: each row of truths, of such as are written and of such as hang on what is handed in.
func TestTruths(t *testing.T) {
	big := api.Env{Key: 2, Val: 1}
	for _, yes := range []api.Expr{yes, of(12, val, key), of(6, of(12, key, val)), of(13, num(2), key)} {
		for _, no := range []api.Expr{no, of(12, key, val), of(6, of(12, val, key)), of(14, key, val)} {
			is(t, yes, big, true)
			is(t, no, big, false)
			is(t, of(6, yes), big, false)
			is(t, of(6, no), big, true)
			for i, c := range [][2]api.Expr{{no, no}, {no, yes}, {yes, no}, {yes, yes}} {
				is(t, of(16, c[:]...), big, i == 3)
				is(t, of(17, c[:]...), big, i != 0)
				is(t, of(14, c[:]...), big, i == 0 || i == 3)
				is(t, of(15, c[:]...), big, i == 1 || i == 2)
			}
		}
	}
}

// TestIf: P10.1: a condition that is true and one that is false, of numbers and of truths.
func TestIf(t *testing.T) {
	env := api.Env{Key: 5, Val: -6, Acc: 7}
	number(t, of(18, yes, key, val), env, 5)
	number(t, of(18, no, key, val), env, -6)
	number(t, of(18, yes, acc, acc), env, 7)
	number(t, of(18, of(12, val, key), num(1), num(2)), env, 1)
	number(t, of(18, of(12, key, val), num(1), num(2)), env, 2)
	for i := range 8 {
		c, a, b := i&1 > 0, i&2 > 0, i&4 > 0
		is(t, of(18, truth(c), truth(a), truth(b)), env, c && a || !c && b)
	}
	number(t, of(18, of(18, no, yes, no), num(1), num(2)), env, 2)
	number(t, of(18, of(18, yes, yes, no), num(1), num(2)), env, 1)
	number(t, of(18, yes, of(18, no, num(1), num(2)), num(3)), env, 2)
	number(t, of(18, no, num(1), of(18, yes, num(2), num(3))), env, 2)
}

// TestOther: P10.2: Int of what comes to a truth, Bool of what comes to a number, each of what has no type.
func TestOther(t *testing.T) {
	env := api.Env{Key: 1, Val: 1, Acc: 1}
	for _, x := range []api.Expr{yes, of(12, num(0), key), of(6, no), of(16, yes, yes), of(17, yes, no), of(18, yes, yes, no), of(14, yes, yes)} {
		if n := eval.Int(x, env); n != 0 {
			t.Errorf("Int(%s) = %d", line(x), n)
		}
		if !eval.Bool(x, env) {
			t.Errorf("Bool(%s) = false", line(x))
		}
	}
	for _, x := range []api.Expr{num(1), key, val, acc, of(9, key, val), of(18, yes, key, val), of(10, acc, key)} {
		if n := eval.Int(x, env); n != 1 {
			t.Errorf("Int(%s) = %d", line(x), n)
		}
		if eval.Bool(x, env) {
			t.Errorf("Bool(%s) = true", line(x))
		}
	}
	for _, x := range []api.Expr{{}, num(-1), of(6, key), of(5, yes), of(7, key, yes), of(16, yes, key), of(18, key, key, key), of(18, yes, yes, key), of(14, key, yes), {Op: 2, N: 1}, of(19, yes, yes), of(2, key)} {
		if n, is := eval.Int(x, env), eval.Bool(x, env); n != 0 || is {
			t.Errorf("Int, Bool(%s) = %d, %v", line(x), n, is)
		}
	}
}
