package kind_test

import (
	"math"
	"slices"
	"testing"

	"changeling/api"
	"changeling/expr"
	"changeling/kind"
)

var (
	key = api.Expr{Op: 2}
	val = api.Expr{Op: 3}
	acc = api.Expr{Op: 4}
)

func num(n int64) api.Expr { return api.Expr{Op: 1, N: n} }

func of(op uint8, args ...api.Expr) api.Expr { return api.Expr{Op: op, Args: args} }

// read is the expression of a text that has one.
func read(t *testing.T, s string) api.Expr {
	t.Helper()
	x, _, e := expr.Parse(s)
	if e != api.OK {
		t.Fatalf("Parse(%q): error %d", s, e)
	}
	return x
}

// line tells an expression so that a failed test shows it.
func line(x api.Expr) string {
	s := string([]byte{'o', '0' + x.Op/100, '0' + x.Op/10%10, '0' + x.Op%10})
	for i, a := range x.Args {
		s += map[bool]string{true: "(", false: " "}[i == 0] + line(a)
	}
	if len(x.Args) > 0 {
		s += ")"
	}
	return s
}

// copied shares nothing with x.
func copied(x api.Expr) api.Expr {
	y := api.Expr{Op: x.Op, N: x.N}
	for _, a := range x.Args {
		y.Args = append(y.Args, copied(a))
	}
	return y
}

func alike(a, b api.Expr) bool {
	return a.Op == b.Op && a.N == b.N && slices.EqualFunc(a.Args, b.Args, alike)
}

// told asks Of, with acc or without, and Is of each kind of type; beside an error there is no type, and Is is false whatever it is asked for.
func told(t *testing.T, x api.Expr, with bool, ty uint8, e api.Errno) {
	t.Helper()
	if got, err := kind.Of(x, with); got != ty || err != e {
		t.Errorf("Of(%.200s, %v) = %d, error %d, want %d, error %d", line(x), with, got, err, ty, e)
	}
	for _, asked := range []uint8{0, 1, 2, 255} {
		if got := kind.Is(x, with, asked); got != (e == 0 && asked == ty) {
			t.Errorf("Is(%.200s, %v, %d) = %v", line(x), with, asked, got)
		}
	}
}

// typed asks for a type that needs no acc.
func typed(t *testing.T, x api.Expr, ty uint8) {
	t.Helper()
	told(t, x, false, ty, 0)
	told(t, x, true, ty, 0)
}

// wrong asks for an error that it has with acc and without.
func wrong(t *testing.T, x api.Expr, e api.Errno) {
	t.Helper()
	told(t, x, false, 0, e)
	told(t, x, true, 0, e)
}

// TestExamples: the chapter's.
func TestExamples(t *testing.T) {
	typed(t, read(t, "key + 1"), api.TyInt)
	typed(t, read(t, "key < 1"), api.TyBool)
	typed(t, read(t, "!(1 = 2)"), api.TyBool)
	wrong(t, read(t, "1 + (1 < 2)"), api.ErrType)
	wrong(t, read(t, "if 1 then 2 else 3"), api.ErrType)
	told(t, read(t, "acc"), false, 0, api.ErrAcc)
	told(t, read(t, "acc"), true, api.TyInt, api.OK)
}

// TestConstants: the types and the errors by the numbers that the chapters say.
func TestConstants(t *testing.T) {
	typed(t, num(5), 1)
	typed(t, of(12, key, val), 2)
	wrong(t, api.Expr{}, 2)
	told(t, acc, false, 0, 90)
	wrong(t, of(6, key), 91)
	if api.TyInt != 1 || api.TyBool != 2 || api.ErrArg != 2 || api.ErrAcc != 90 || api.ErrType != 91 {
		t.Error(api.TyInt, api.TyBool, api.ErrArg, api.ErrAcc, api.ErrType)
	}
}

// TestTexts: P9.1: ordinary expressions.
func TestTexts(t *testing.T) {
	for _, s := range []string{
		"0", "9223372036854775807", "key", "val", "-1", "--key", "key+val", "key-val", "key*val", "key/0", "key%2", "1+2*3-4/5%6", "-(key+1)*-val", "(((key)))",
		"if key<val then key else val", "if 1=2 then 1 else if 3=4 then 3 else 4", "1+if key<=0 then 1 else 2", "if if 1<2 then 1=2 else 3=4 then 5 else 6", "-if !(key=val) then 1 else 2",
	} {
		typed(t, read(t, s), 1)
	}
	for _, s := range []string{
		"1<2", "key<=val", "key=val", "key!=val", "!(key<1)", "!!(1=1)", "1<2&3<4", "1<2|3<=4&5!=6", "(1<2)=(3<4)", "(1=2)!=(3=4)", "(1<2)=!(2<1)",
		"if 1<2 then 3<4 else 5=6", "!if 1<2 then 1=2 else 1!=2", "(if 1<2 then 3<4 else 5=6)=(1<2)", "key%2=0&!(val<0)", "(1<2&2<3)=(3<4|4<5)", "(if 1<2 then 3 else 4)<5",
	} {
		typed(t, read(t, s), 2)
	}
	for _, s := range []string{
		"-(1<2)", "!1", "!key", "1&2", "1<2&3", "3&1<2", "1|1<2", "1<2|val", "1+(1<2)", "(1<2)+1", "(1<2)-(1<2)", "(1=1)*2", "2/(1=1)", "2%(1=1)", "(1<2)<3", "1<(2<3)", "(1<2)<(3<4)", "(1<2)<=(3<4)", "1<=(2<3)",
		"1=(2=3)", "(1=2)=3", "1!=(2!=3)", "(1<2)!=3", "if 1 then 2 else 3", "if key then 1<2 else 2<3", "if 1<2 then 3 else 4<5", "if 1<2 then 3<4 else 5", "if 1 then 2 else 3<4", "!(key+val)", "-!(1<2)", "!-1", "if 1<2 then -(1<2) else 3", "if !1 then 2 else 3", "if 1<2 then 3 else !4",
	} {
		wrong(t, read(t, s), api.ErrType)
	}
	for s, ty := range map[string]uint8{"acc+val": 1, "if acc<val then acc else val": 1, "acc=0": 2, "!(key<acc)": 2, "if acc=0 then 1=2 else 3=4": 2, "-acc": 1, "1+2*(3-acc)": 1} {
		told(t, read(t, s), true, ty, 0)
		told(t, read(t, s), false, 0, api.ErrAcc)
	}
	for _, s := range []string{"!acc", "acc&acc", "acc+(1<2)", "(acc<1)+1", "if acc then 1 else 2", "if 1<2 then acc else acc<1", "acc=(acc=acc)", "-(acc<1)"} {
		told(t, read(t, s), true, 0, api.ErrType)
		told(t, read(t, s), false, 0, api.ErrAcc)
	}
}

// counts is how many Args an Op has.
func counts(op uint8) int {
	return []int{0, 0, 0, 0, 0, 1, 1, 2, 2, 2, 2, 2, 2, 2, 2, 2, 2, 2, 3}[op]
}

// table: the chapter's, by hand: i is TyInt, b TyBool; those of an Op's Args, and behind them its own.
var table = map[uint8][]string{
	1: {"i"}, 2: {"i"}, 3: {"i"}, 4: {"i"},
	5: {"ii"}, 7: {"iii"}, 8: {"iii"}, 9: {"iii"}, 10: {"iii"}, 11: {"iii"},
	6: {"bb"}, 16: {"bbb"}, 17: {"bbb"},
	12: {"iib"}, 13: {"iib"},
	14: {"iib", "bbb"}, 15: {"iib", "bbb"},
	18: {"biii", "bbbb"},
}

// made is the type that the table tells of an Op whose Args are of these; 0, if none.
func made(op uint8, args string) uint8 {
	switch {
	case slices.Contains(table[op], args+"i"):
		return 1
	case slices.Contains(table[op], args+"b"):
		return 2
	}
	return 0
}

// ofType are some expressions of a type, without acc; of x, which stands for none, such as have none.
func ofType(ty byte) []api.Expr {
	less, add := of(12, key, val), of(7, num(1), key)
	switch ty {
	case 'i':
		return []api.Expr{num(0), num(math.MaxInt64), key, val, of(5, key), add, of(11, add, val), of(18, less, num(1), add)}
	case 'b':
		return []api.Expr{less, of(13, add, add), of(14, key, key), of(15, less, less), of(6, less), of(16, less, less), of(17, less, less), of(18, less, less, of(14, less, less))}
	}
	return []api.Expr{of(6, key), of(7, key, less), of(5, less), of(14, less, key), of(18, key, key, key), of(5, of(5, of(6, num(1))))}
}

// args tells all rows of so many types.
func args(many int) []string {
	all := []string{""}
	for range many {
		var longer []string
		for _, s := range all {
			longer = append(longer, s+"i", s+"b", s+"x")
		}
		all = longer
	}
	return all
}

// choices are all ways to take Args of such types.
func choices(types string) [][]api.Expr {
	all := [][]api.Expr{nil}
	for i := range len(types) {
		var more [][]api.Expr
		for _, l := range all {
			for _, x := range ofType(types[i]) {
				more = append(more, append(slices.Clone(l), x))
			}
		}
		all = more
	}
	return all
}

// put is x, so many levels beneath others, each of that Op, at that place; the other Args are of the types that the row tells.
func put(x api.Expr, op uint8, row string, place, levels int) api.Expr {
	for range levels {
		y := of(op)
		for i := range counts(op) {
			y.Args = append(y.Args, ofType(row[i])[0])
		}
		y.Args[place] = x
		x = y
	}
	return x
}

// holder puts an expression at a place within others: what it has there is of the type to, if the expression is of the type from; else it has none.
type holder struct {
	from, to uint8
	hold     func(x api.Expr) api.Expr
}

// holders: one for each row of the table, and each place.
func holders() []holder {
	var l []holder
	places(func(op uint8, row string, place int) {
		l = append(l, holder{number(row[place]), number(row[len(row)-1]), func(x api.Expr) api.Expr { return put(x, op, row, place, 1) }})
	})
	return l
}

// places tells f each row of the table that has Args, and each of their places.
func places(f func(op uint8, row string, place int)) {
	for op := uint8(5); op <= 18; op++ {
		for _, row := range table[op] {
			for place := range counts(op) {
				f(op, row, place)
			}
		}
	}
}

func number(ty byte) uint8 { return map[byte]uint8{'i': 1, 'b': 2}[ty] }

// TestEachOp: P9.1: each Op with Args of each type, and of none, at each of its places.
func TestEachOp(t *testing.T) {
	many := [3]int{}
	for op := uint8(1); op <= 18; op++ {
		for _, types := range args(counts(op)) {
			ty := made(op, types)
			many[ty]++
			for _, l := range choices(types) {
				if op == 4 {
					told(t, of(op, l...), false, 0, api.ErrAcc)
					told(t, of(op, l...), true, ty, 0)
				} else if ty == 0 {
					wrong(t, of(op, l...), api.ErrType)
				} else {
					typed(t, of(op, l...), ty)
				}
			}
		}
	}
	if many != [3]int{115, 11, 10} {
		t.Error(many)
	}
}

// TestEachOpWithin: P9.1: the same within all rows of two holders.
func TestEachOpWithin(t *testing.T) {
	all := holders()
	through := func(h holder, ty uint8) uint8 {
		if ty != h.from {
			return 0
		}
		return h.to
	}
	for op := uint8(5); op <= 18; op++ {
		for _, types := range args(counts(op)) {
			x := of(op)
			for i := range len(types) {
				x.Args = append(x.Args, ofType(types[i])[len(types)-1-i])
			}
			for _, h := range all {
				for _, outer := range all {
					y, ty := outer.hold(h.hold(x)), through(outer, through(h, made(op, types)))
					if got, e := kind.Of(y, false); got != ty || e != [...]api.Errno{api.ErrType, 0, 0}[ty] {
						t.Errorf("Of(%s, false) = %d, error %d, want %d", line(y), got, e, ty)
					}
				}
			}
		}
		if t.Failed() {
			t.FailNow()
		}
	}
}

// TestFarWithin: P9.1: one Arg of the right type, and one of the other, beneath so many others.
func TestFarWithin(t *testing.T) {
	i, b := num(3), of(12, key, val)
	places(func(op uint8, row string, place int) {
		right, other := i, b
		if row[place] == 'b' {
			right, other = b, i
		}
		typed(t, put(right, op, row, place, 1), number(row[len(row)-1]))
		wrong(t, put(other, op, row, place, 1), api.ErrType)
		for levels := 2; levels <= 14 && row[place] == row[len(row)-1]; levels++ {
			typed(t, put(right, op, row, place, levels), number(row[place]))
			wrong(t, put(other, op, row, place, levels), api.ErrType)
		}
	})
}

// TestEqual: P9.1: two of TyInt, two of TyBool, one of each.
func TestEqual(t *testing.T) {
	i, b := of(5, key), of(12, key, val)
	for _, op := range []uint8{api.ExEq, api.ExNe} {
		typed(t, of(op, i, i), api.TyBool)
		typed(t, of(op, b, b), api.TyBool)
		wrong(t, of(op, i, b), api.ErrType)
		wrong(t, of(op, b, i), api.ErrType)
		typed(t, of(op, of(op, i, i), of(op, b, b)), api.TyBool)
		wrong(t, of(op, of(op, i, i), i), api.ErrType)
		wrong(t, of(op, of(op, i, b), of(op, i, b)), api.ErrType)
	}
	for _, op := range []uint8{api.ExLess, api.ExLeq} {
		typed(t, of(op, i, i), api.TyBool)
		wrong(t, of(op, b, b), api.ErrType)
		wrong(t, of(op, i, b), api.ErrType)
		wrong(t, of(op, b, i), api.ErrType)
	}
}

// TestIf: P9.1: each type at each of the three places.
func TestIf(t *testing.T) {
	i, b := of(9, key, num(2)), of(17, of(14, key, val), of(6, of(15, val, val)))
	typed(t, of(18, b, i, i), api.TyInt)
	typed(t, of(18, b, b, b), api.TyBool)
	wrong(t, of(18, i, i, i), api.ErrType)
	wrong(t, of(18, i, b, b), api.ErrType)
	wrong(t, of(18, i, i, b), api.ErrType)
	wrong(t, of(18, i, b, i), api.ErrType)
	wrong(t, of(18, b, i, b), api.ErrType)
	wrong(t, of(18, b, b, i), api.ErrType)
	typed(t, of(7, of(18, b, i, i), i), api.TyInt)
	typed(t, of(16, of(18, b, b, b), b), api.TyBool)
	wrong(t, of(7, of(18, b, b, b), i), api.ErrType)
	wrong(t, of(16, of(18, b, i, i), b), api.ErrType)
}

// TestAcc: P9.1: ExAcc at the top, and at each depth, as deep as may be, at each place.
func TestAcc(t *testing.T) {
	told(t, acc, true, api.TyInt, api.OK)
	told(t, acc, false, 0, api.ErrAcc)
	places(func(op uint8, row string, place int) {
		for levels := 1; levels <= 16; levels++ {
			switch x := put(acc, op, row, place, levels); {
			case depth(x) > 16:
				wrong(t, x, api.ErrArg)
			case fits(x) == 0:
				told(t, x, false, 0, api.ErrAcc)
				told(t, x, true, 0, api.ErrType)
			default:
				told(t, x, false, 0, api.ErrAcc)
				told(t, x, true, fits(x), api.OK)
			}
		}
	})
	deep := put(acc, 5, "ii", 0, 15)
	told(t, deep, true, api.TyInt, api.OK)
	told(t, deep, false, 0, api.ErrAcc)
	deep = put(of(12, key, put(acc, 7, "iii", 1, 7)), 6, "bb", 0, 7)
	told(t, deep, true, api.TyBool, api.OK)
	told(t, deep, false, 0, api.ErrAcc)
	for i := range 3 { // beside others that have none
		x := of(18, of(12, key, val), of(12, val, key), of(14, key, val))
		x.Args[i] = of(12, num(1), acc)
		told(t, x, true, api.TyBool, api.OK)
		told(t, x, false, 0, api.ErrAcc)
	}
	for op := uint8(7); op <= 11; op++ {
		told(t, of(op, acc, key), false, 0, api.ErrAcc)
		told(t, of(op, key, acc), false, 0, api.ErrAcc)
		told(t, of(op, acc, acc), false, 0, api.ErrAcc)
		told(t, of(op, acc, acc), true, api.TyInt, api.OK)
	}
}

// depth: how deep x is, by chapter 8's words.
func depth(x api.Expr) int {
	deep := 0
	for _, a := range x.Args {
		deep = max(deep, depth(a))
	}
	return deep + 1
}

// TestDeep: P9.1: just MaxDeep deep, and one more, by each Op and each of its places.
func TestDeep(t *testing.T) {
	places(func(op uint8, row string, place int) {
		for levels := range 40 {
			for _, x := range []api.Expr{key, num(7)} {
				x = put(x, op, row, place, levels)
				switch {
				case depth(x) > 16:
					wrong(t, x, api.ErrArg)
				case fits(x) == 0:
					wrong(t, x, api.ErrType)
				default:
					typed(t, x, fits(x))
				}
			}
		}
	})
	typed(t, put(of(12, key, val), 6, "bb", 0, 14), api.TyBool)
	wrong(t, put(of(12, key, val), 6, "bb", 0, 15), api.ErrArg)
	typed(t, put(key, 5, "ii", 0, 15), api.TyInt)
	wrong(t, put(key, 5, "ii", 0, 16), api.ErrArg)
	wrong(t, put(key, 6, "bb", 0, 15), api.ErrType)
	wrong(t, put(key, 6, "bb", 0, 16), api.ErrArg)
	told(t, put(acc, 6, "bb", 0, 15), false, 0, api.ErrAcc)
	told(t, put(acc, 6, "bb", 0, 15), true, 0, api.ErrType)
	wrong(t, put(acc, 5, "ii", 0, 16), api.ErrArg)
	wrong(t, put(acc, 6, "bb", 0, 16), api.ErrArg)
}

// TestIs: P9.2: each number that a type may be asked for by.
func TestIs(t *testing.T) {
	for _, c := range []struct {
		x             api.Expr
		without, with int
	}{
		{num(1), 1, 1}, {key, 1, 1}, {val, 1, 1}, {acc, -1, 1}, {of(12, key, val), 2, 2}, {of(12, key, acc), -1, 2}, {of(7, key, acc), -1, 1}, {of(6, of(14, key, key)), 2, 2},
		{of(6, key), -1, -1}, {of(6, acc), -1, -1}, {of(7, key, of(12, key, val)), -1, -1}, {of(18, key, key, key), -1, -1},
		{api.Expr{}, -1, -1}, {api.Expr{Op: 19}, -1, -1}, {num(-1), -1, -1}, {of(5), -1, -1}, {of(1, key), -1, -1}, {put(key, 5, "ii", 0, 16), -1, -1}, {put(key, 5, "ii", 0, 15), 1, 1},
	} {
		for ty := range 256 {
			if without, with := kind.Is(c.x, false, uint8(ty)), kind.Is(c.x, true, uint8(ty)); without != (ty == c.without) || with != (ty == c.with) {
				t.Errorf("Is(%s, .., %d) = %v without acc, %v with it", line(c.x), ty, without, with)
			}
		}
	}
}
