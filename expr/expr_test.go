package expr_test

import (
	"math"
	"slices"
	"strings"
	"testing"
	"unicode/utf8"

	"changeling/api"
	"changeling/expr"
	"changeling/lex"
)

var (
	key = api.Expr{Op: 2}
	val = api.Expr{Op: 3}
	acc = api.Expr{Op: 4}
)

func num(n int64) api.Expr { return api.Expr{Op: 1, N: n} }

func of(op uint8, args ...api.Expr) api.Expr { return api.Expr{Op: op, Args: args} }

// alike holds expressions against each other by plain calls within one another, for such as are not too deep for that.
func alike(a, b api.Expr) bool {
	return a.Op == b.Op && a.N == b.N && slices.EqualFunc(a.Args, b.Args, alike)
}

func zero(x api.Expr) bool { return x.Op == 0 && x.N == 0 && len(x.Args) == 0 }

// line tells an expression so that a failed test shows it.
func line(x api.Expr) string {
	s := string([]byte{'o', '0' + x.Op/10, '0' + x.Op%10})
	if x.Op == 1 {
		s = string(rune('0' + x.N%10))
	}
	for i, a := range x.Args {
		s += map[bool]string{true: "(", false: " "}[i == 0] + line(a)
	}
	if len(x.Args) > 0 {
		s += ")"
	}
	return s
}

// reads asks for a text's expression, and that what Parse tells may be.
func reads(t *testing.T, s string, want api.Expr) {
	t.Helper()
	x, at, e := expr.Parse(s)
	if at != 0 || e != api.OK || !alike(x, want) {
		t.Errorf("Parse(%.80q) = %s, %d, error %d, want %s", s, line(x), at, e, line(want))
		return
	}
	if !expr.May(x) || expr.Deep(x) > api.MaxDeep || !expr.Same(x, want) {
		t.Errorf("Parse(%.80q) may be: %v, %d deep, the same: %v", s, expr.May(x), expr.Deep(x), expr.Same(x, want))
	}
}

// refused asks for an error, its place, and that nothing is told beside them.
func refused(t *testing.T, s string, at int, want api.Errno) {
	t.Helper()
	if x, place, e := expr.Parse(s); !zero(x) || place != at || e != want {
		t.Errorf("Parse(%.80q) = %s, %d, error %d, want %d, error %d", s, line(x), place, e, at, want)
	}
}

// TestExamples: the chapter's.
func TestExamples(t *testing.T) {
	reads(t, "1 + 2 * key", of(api.ExAdd, num(1), of(api.ExMul, num(2), key)))
	reads(t, "1 - 2 - 3", of(api.ExSub, of(api.ExSub, num(1), num(2)), num(3)))
	reads(t, "if val < 3 then - 1 else (acc)", of(api.ExIf, of(api.ExLess, val, num(3)), of(api.ExNeg, num(1)), acc))
	refused(t, "1 < 2 < 3", 6, api.ErrSyntax)
	refused(t, "key val", 4, api.ErrSyntax)
	refused(t, "(1", 2, api.ErrSyntax)
}

// TestConstants: the kinds and the errors by the numbers that the chapter says.
func TestConstants(t *testing.T) {
	for s, want := range map[string]api.Expr{
		"5": {Op: 1, N: 5}, "key": {Op: 2}, "val": {Op: 3}, "acc": {Op: 4}, "-key": of(5, key), "!key": of(6, key),
		"key+val": of(7, key, val), "key-val": of(8, key, val), "key*val": of(9, key, val), "key/val": of(10, key, val), "key%val": of(11, key, val),
		"key<val": of(12, key, val), "key<=val": of(13, key, val), "key=val": of(14, key, val), "key!=val": of(15, key, val),
		"key&val": of(16, key, val), "key|val": of(17, key, val), "if key then val else acc": of(18, key, val, acc),
	} {
		reads(t, s, want)
	}
	refused(t, strings.Repeat(" ", 401), 0, 3)
	refused(t, "#", 0, 70)
	refused(t, "99999999999999999999", 0, 71)
	refused(t, "", 0, 80)
	refused(t, strings.Repeat("-", 16)+"1", 0, 81)
	if api.MaxDeep != 16 || api.MaxText != 400 {
		t.Error(api.MaxDeep, api.MaxText)
	}
}

// TestNothing: P8.1: no bytes, and blanks alone: ErrSyntax at the end.
func TestNothing(t *testing.T) {
	for n := range 401 {
		refused(t, strings.Repeat(" ", n), n, api.ErrSyntax)
		refused(t, strings.Repeat("\t", n), n, api.ErrSyntax)
	}
	refused(t, "\t \t", 3, api.ErrSyntax)
}

// TestOnes: P8.1: the last rule's, with blanks and parentheses around them or not.
func TestOnes(t *testing.T) {
	for s, want := range map[string]api.Expr{
		"0": num(0), "1": num(1), "007": num(7), "9223372036854775807": num(math.MaxInt64), strings.Repeat("0", 50): num(0), "key": key, "val": val, "acc": acc,
		"if 1 then 2 else 3": of(18, num(1), num(2), num(3)),
	} {
		reads(t, s, want)
		for _, round := range [][2]string{{" ", ""}, {"", "\t"}, {"\t ", " \t"}, {"(", ")"}, {" ( ", " ) "}, {"((", "))"}, {"((( ", ")\t) ) "}} {
			reads(t, round[0]+s+round[1], want)
		}
		reads(t, "-"+s, of(5, want))
		reads(t, "!("+s+")", of(6, want))
	}
}

// twos: the signs between two, by levels, those that go together last first.
var twos = [][]string{{"|"}, {"&"}, {"<", "<=", "=", "!="}, {"+", "-"}, {"*", "/", "%"}}

var opOf = map[string]uint8{"+": 7, "-": 8, "*": 9, "/": 10, "%": 11, "<": 12, "<=": 13, "=": 14, "!=": 15, "&": 16, "|": 17}

// TestLevels: P8.1: each two signs behind one another: by their levels, and from the left within one.
func TestLevels(t *testing.T) {
	for i, high := range twos {
		for j, low := range twos {
			for _, a := range high {
				for _, b := range low {
					s := "1 " + a + " 2 " + b + " 3"
					left, right := of(opOf[b], of(opOf[a], num(1), num(2)), num(3)), of(opOf[a], num(1), of(opOf[b], num(2), num(3)))
					switch {
					case i == 2 && j == 2:
						refused(t, s, 5+len(a), api.ErrSyntax)
					case i >= j:
						reads(t, s, left)
					default:
						reads(t, s, right)
					}
					reads(t, "(1 "+a+" 2)"+b+"3", left)
					reads(t, "1"+a+"(2"+b+" 3)", right)
				}
			}
		}
	}
	reads(t, "1|2&3<4+5*6", of(17, num(1), of(16, num(2), of(12, num(3), of(7, num(4), of(9, num(5), num(6)))))))
	reads(t, "1*2+3<4&5|6", of(17, of(16, of(12, of(7, of(9, num(1), num(2)), num(3)), num(4)), num(5)), num(6)))
	reads(t, "1+2<=3-4&5=6|key!=-7", of(17, of(16, of(13, of(7, num(1), num(2)), of(8, num(3), num(4))), of(14, num(5), num(6))), of(15, key, of(5, num(7)))))
}

// TestRows: P8.1: rows of one level go together from the left, whatever its signs.
func TestRows(t *testing.T) {
	for _, level := range [][]string{twos[0], twos[1], twos[3], twos[4]} {
		for n := 2; n <= api.MaxDeep; n++ {
			s, want := "0", num(0)
			for i := 1; i < n; i++ {
				sign := level[i*i%len(level)]
				s += sign + string(rune('0'+i%10))
				want = of(opOf[sign], want, num(int64(i%10)))
			}
			reads(t, s, want)
			reads(t, "("+s+")", want)
		}
	}
	reads(t, "1-2+3-4", of(8, of(7, of(8, num(1), num(2)), num(3)), num(4)))
	reads(t, "1/2*3%4", of(11, of(9, of(10, num(1), num(2)), num(3)), num(4)))
	reads(t, "1*2-3*4-5", of(8, of(8, of(9, num(1), num(2)), of(9, num(3), num(4))), num(5)))
	reads(t, "1&2|3&4|5", of(17, of(17, of(16, num(1), num(2)), of(16, num(3), num(4))), num(5)))
	reads(t, "1-(2-3)", of(8, num(1), of(8, num(2), num(3))))
}

// TestComparisons: P8.1: one at most at a level; another one within parentheses, within an if, behind what ends the level.
func TestComparisons(t *testing.T) {
	for _, a := range twos[2] {
		for _, b := range twos[2] {
			x, y := opOf[a], opOf[b]
			refused(t, "1"+a+"2"+b+"3", 2+len(a), api.ErrSyntax)
			refused(t, "(1"+a+"2"+b+"3)", 3+len(a), api.ErrSyntax)
			refused(t, "1+1"+a+"2*2"+b+"3", 6+len(a), api.ErrSyntax)
			refused(t, "1"+a+"(2)"+b, 4+len(a), api.ErrSyntax)
			refused(t, "1"+a+" "+b+"2", 2+len(a), api.ErrSyntax)
			reads(t, "1"+a+"2&3"+b+"4", of(16, of(x, num(1), num(2)), of(y, num(3), num(4))))
			reads(t, "1"+a+"2|3"+b+"4", of(17, of(x, num(1), num(2)), of(y, num(3), num(4))))
			reads(t, "(1"+a+"2)"+b+"3", of(y, of(x, num(1), num(2)), num(3)))
			reads(t, "1"+a+"(2"+b+"3)", of(x, num(1), of(y, num(2), num(3))))
			reads(t, "(1"+a+"2)"+b+"(3"+a+"4)", of(y, of(x, num(1), num(2)), of(x, num(3), num(4))))
			reads(t, "if 1"+a+"2 then 3"+b+"4 else 5"+a+"6", of(18, of(x, num(1), num(2)), of(y, num(3), num(4)), of(x, num(5), num(6))))
			reads(t, "1"+a+"if 1 then 2 else 3"+b+"4", of(x, num(1), of(18, num(1), num(2), of(y, num(3), num(4)))))
			reads(t, "1+1"+a+"-2*2", of(x, of(7, num(1), num(1)), of(9, of(5, num(2)), num(2))))
		}
	}
}

// TestSigns: P8.1: signs in a row ahead of what they stand before: of that alone.
func TestSigns(t *testing.T) {
	for n := range 16 {
		for bits := range 1 << min(n, 6) {
			s, want := "", key
			for i := range n {
				if bits>>(i%6)&1 == 0 {
					s, want = "-"+s, of(5, want)
				} else {
					s, want = "!"+s, of(6, want)
				}
			}
			reads(t, s+"key", want)
			reads(t, strings.Join(strings.Split(s, ""), " ")+"\t(key)", want)
		}
	}
	reads(t, "-1*2", of(9, of(5, num(1)), num(2)))
	reads(t, "-1+2", of(7, of(5, num(1)), num(2)))
	reads(t, "1--1", of(8, num(1), of(5, num(1))))
	reads(t, "1 - - - 1", of(8, num(1), of(5, of(5, num(1)))))
	reads(t, "1*-2", of(9, num(1), of(5, num(2))))
	reads(t, "1/!-2", of(10, num(1), of(6, of(5, num(2)))))
	reads(t, "!key=val", of(14, of(6, key), val))
	reads(t, "!(key=val)", of(6, of(14, key, val)))
	reads(t, "!key&!val", of(16, of(6, key), of(6, val)))
	reads(t, "key!=!val", of(15, key, of(6, val)))
	reads(t, "key=!val", of(14, key, of(6, val)))
	reads(t, "key<-1", of(12, key, of(5, num(1))))
	reads(t, "-9223372036854775807", of(5, num(math.MaxInt64)))
	refused(t, "-9223372036854775808", 1, api.ErrBig)
	reads(t, "-(1+2)", of(5, of(7, num(1), num(2))))
	reads(t, "--(1)--1", of(8, of(5, of(5, num(1))), of(5, num(1))))
	for _, s := range []string{"+1", "*1", "/1", "%1", "=1", "<1", "<=1", "!=1", "&1", "|1", ")1"} {
		refused(t, s, 0, api.ErrSyntax)
		refused(t, "-"+s, 1, api.ErrSyntax)
		refused(t, "!("+s+")", 2, api.ErrSyntax)
	}
	refused(t, "key ! = val", 4, api.ErrSyntax)
	refused(t, "key < = val", 6, api.ErrSyntax)
	refused(t, "key !", 4, api.ErrSyntax)
	refused(t, "1 -", 3, api.ErrSyntax)
	refused(t, "1!2", 1, api.ErrSyntax)
	refused(t, "1==2", 2, api.ErrSyntax)
	refused(t, "1&&2", 2, api.ErrSyntax)
	refused(t, "1||2", 2, api.ErrSyntax)
}

// TestElse: P8.1: an else takes as much behind it as may be, whatever stands ahead of its if.
func TestElse(t *testing.T) {
	chosen := func(last api.Expr) api.Expr { return of(18, key, num(1), last) }
	const s = "if key then 1 else 2"
	for sign, op := range opOf {
		reads(t, s+sign+"3", chosen(of(op, num(2), num(3))))
		reads(t, s+" "+sign+" 3 ", chosen(of(op, num(2), num(3))))
		reads(t, "("+s+")"+sign+"3", of(op, chosen(num(2)), num(3)))
		reads(t, "("+s+sign+"3)"+sign+"4", of(op, chosen(of(op, num(2), num(3))), num(4)))
		reads(t, "4"+sign+s, of(op, num(4), chosen(num(2))))
		reads(t, "4"+sign+s+sign+"3", of(op, num(4), chosen(of(op, num(2), num(3)))))
		reads(t, "-"+s+sign+"3", of(5, chosen(of(op, num(2), num(3)))))
		reads(t, "!"+s+sign+"3", of(6, chosen(of(op, num(2), num(3)))))
		reads(t, "-("+s+")"+sign+"3", of(op, of(5, chosen(num(2))), num(3)))
	}
	reads(t, "4*"+s+"+3|5", of(9, num(4), chosen(of(17, of(7, num(2), num(3)), num(5)))))
	reads(t, "4+"+s+"-3-5", of(7, num(4), chosen(of(8, of(8, num(2), num(3)), num(5)))))
	reads(t, "if key then 1|2 else 3|4", of(18, key, of(17, num(1), num(2)), of(17, num(3), num(4))))
	reads(t, "if key|val then 1 else 2", of(18, of(17, key, val), num(1), num(2)))
}

// TestElseEnds: P8.1: a second comparison goes to what stands around the else, if there is one that may have it.
func TestElseEnds(t *testing.T) {
	first := of(18, key, num(1), of(12, num(2), num(3)))
	reads(t, "if key then 1 else 2 < 3 < 4", of(12, first, num(4)))
	reads(t, "if key then 1 else 2 < 3 = 4 & 5", of(16, of(14, first, num(4)), num(5)))
	reads(t, "if key then 1 else 2 < 3 < 4 + 5", of(12, first, of(7, num(4), num(5))))
	reads(t, "-if key then 1 else 2 < 3 < 4", of(12, of(5, first), num(4)))
	reads(t, "9 * if key then 1 else 2 < 3 < 4", of(12, of(9, num(9), first), num(4)))
	reads(t, "9 & if key then 1 else 2 < 3 < 4", of(16, num(9), of(12, first, num(4))))
	reads(t, "if key then 1 else if key then 1 else 2 < 3 <= 4 != 5", of(15, of(18, key, num(1), of(13, first, num(4))), num(5)))
	refused(t, "if key then 1 else 2 < 3 < 4 < 5", 29, api.ErrSyntax)
	refused(t, "9 < if key then 1 else 2 < 3 < 4", 29, api.ErrSyntax)
	refused(t, "(if key then 1 else 2) < 3 < 4", 27, api.ErrSyntax)
	refused(t, "if key then 1 < 2 < 3 else 4", 18, api.ErrSyntax)
	refused(t, "if 1 < 2 < 3 then 1 else 4", 9, api.ErrSyntax)
}

// TestIfs: P8.1: an if within each of an if's three places, and what is a part of it.
func TestIfs(t *testing.T) {
	const in = "if 1 then 2 else 3"
	x := of(18, num(1), num(2), num(3))
	reads(t, "if "+in+" then 4 else 5", of(18, x, num(4), num(5)))
	reads(t, "if 4 then "+in+" else 5", of(18, num(4), x, num(5)))
	reads(t, "if 4 then 5 else "+in, of(18, num(4), num(5), x))
	reads(t, "if "+in+" then "+in+" else "+in, of(18, x, x, x))
	reads(t, "if "+in+" + 6 then "+in+" * 6 else "+in+" & 6", of(18, of(18, num(1), num(2), of(7, num(3), num(6))), of(18, num(1), num(2), of(9, num(3), num(6))), of(18, num(1), num(2), of(16, num(3), num(6)))))
	reads(t, "if("+in+")then("+in+")else("+in+")", of(18, x, x, x))
	reads(t, "if-1then!2else-3", of(18, of(5, num(1)), of(6, num(2)), of(5, num(3))))
	reads(t, "if 1then 2else 3", x)
	reads(t, "if\t1\tthen\t2\telse\t3", x)
	refused(t, "if1then2else3"+in, 13, api.ErrSyntax)
	refused(t, "if key then val else acc else 1", 25, api.ErrSyntax)
	refused(t, "if key then val then acc", 16, api.ErrSyntax)
	refused(t, "if key else val", 7, api.ErrSyntax)
	refused(t, "if key then val", 15, api.ErrSyntax)
	refused(t, "if key then val else", 20, api.ErrSyntax)
	refused(t, "if key val", 7, api.ErrSyntax)
	refused(t, "if key", 6, api.ErrSyntax)
	refused(t, "if", 2, api.ErrSyntax)
	refused(t, "if then", 3, api.ErrSyntax)
	refused(t, "if (key then val) else acc", 8, api.ErrSyntax)
	refused(t, "(if key then val) else acc", 16, api.ErrSyntax)
	refused(t, "ifkey then 1 else 2", 0, api.ErrSyntax)
	refused(t, "if key thenval else 2", 7, api.ErrSyntax)
	refused(t, "1 if 2 then 3 else 4", 2, api.ErrSyntax)
	refused(t, "if if if", 8, api.ErrSyntax)
	refused(t, "else", 0, api.ErrSyntax)
	refused(t, "then 1", 0, api.ErrSyntax)
}

// TestParentheses: P8.1, P8.3: around a text, around its parts, many of them; they do not make it deeper.
func TestParentheses(t *testing.T) {
	for n := range 200 {
		open, shut := strings.Repeat("(", n), strings.Repeat(")", n)
		reads(t, open+"1"+shut, num(1))
		if n > 0 {
			refused(t, open+shut, n, api.ErrSyntax)
			refused(t, open+"1"+shut[1:], 2*n, api.ErrSyntax)
			refused(t, open[1:]+"1"+shut, 2*n-1, api.ErrSyntax)
			refused(t, open+"1"+shut[1:]+" 1", 2*n+1, api.ErrSyntax)
		}
		if n > 0 && n < 180 {
			reads(t, open+"1+key"+shut+"*2", of(9, of(7, num(1), key), num(2)))
			reads(t, "2 - "+open+"1-key"+shut, of(8, num(2), of(8, num(1), key)))
			reads(t, open+strings.Repeat("-", 15)+"1"+shut, deepest(5, 16))
			refused(t, open+strings.Repeat("-", 16)+"1"+shut, 0, api.ErrDeep)
		}
	}
	refused(t, strings.Repeat("(", 400), 400, api.ErrSyntax)
	refused(t, strings.Repeat(")", 400), 0, api.ErrSyntax)
	refused(t, "()", 1, api.ErrSyntax)
	refused(t, "(1)(2)", 3, api.ErrSyntax)
	refused(t, "1(2)", 1, api.ErrSyntax)
	refused(t, "(1 2)", 3, api.ErrSyntax)
	refused(t, "(1,2)", 2, api.ErrToken)
	refused(t, "key(1)", 3, api.ErrSyntax)
	refused(t, "(1))", 3, api.ErrSyntax)
	refused(t, ")1(", 0, api.ErrSyntax)
	reads(t, "(((1)+(key)))", of(7, num(1), key))
	reads(t, "((1)+2)*((3))", of(9, of(7, num(1), num(2)), num(3)))
}

// TestNames: P8.1: names that are none of the six say nothing, nor do the six where they may not stand.
func TestNames(t *testing.T) {
	for _, s := range []string{
		"a", "k", "ke", "keys", "keykey", "Key", "KEY", "kEy", "value", "vals", "Val", "account", "ac", "accc", "Acc", "i", "iff", "If", "IF", "thenn", "the", "Then", "els", "elsee", "Else", "elseif", "ifkey",
		"\u00df", "k\u00ebey", "key\u00df", "\u00dfkey", "\uff4bey", "true", "false", "and", "or", "not", "x", "yek", "\u3000", "key\u3000", "\ufeffkey", strings.Repeat("k", 300), strings.Repeat("key", 100),
		"else", "then",
	} {
		refused(t, s, 0, api.ErrSyntax)
		refused(t, " "+s+" ", 1, api.ErrSyntax)
		refused(t, "("+s+")", 1, api.ErrSyntax)
		refused(t, "-"+s, 1, api.ErrSyntax)
		refused(t, "1+"+s, 2, api.ErrSyntax)
		refused(t, s+"+1", 0, api.ErrSyntax)
		refused(t, "key "+s, 4, api.ErrSyntax)
		refused(t, "if "+s+" then 1 else 2", 3, api.ErrSyntax)
		refused(t, "if 1 then "+s+" else 2", 10, api.ErrSyntax)
		refused(t, "if 1 then 2 else "+s, 17, api.ErrSyntax)
		if s != "then" {
			refused(t, "if 1 "+s+" 2 else 3", 5, api.ErrSyntax)
		}
		if s != "else" {
			refused(t, "if 1 then 2 "+s+" 3", 12, api.ErrSyntax)
		}
	}
	for _, s := range []string{"key", "val", "acc", "if", "7"} {
		for _, ahead := range []string{"key", "val", "acc", "7", "(1)", "if 1 then 2 else 3"} {
			refused(t, ahead+" "+s, utf8.RuneCountInString(ahead)+1, api.ErrSyntax)
		}
		refused(t, "if 1 "+s+" 2 else 3", 5, api.ErrSyntax)
		refused(t, "if 1 then 2 "+s+" 3", 12, api.ErrSyntax)
	}
	refused(t, "key1", 3, api.ErrSyntax)
	refused(t, "1key", 1, api.ErrSyntax)
	refused(t, "keyval", 0, api.ErrSyntax)
	refused(t, "key.val", 3, api.ErrToken)
}

// TestPlaces: P8.1: places are counted in runes; of the text's end all of them count, blanks too.
func TestPlaces(t *testing.T) {
	refused(t, "1 + \u00df", 4, api.ErrSyntax)
	refused(t, "\u00df\u00df 1", 0, api.ErrSyntax)
	refused(t, "1 \u20ac\U0001f600 $", 5, api.ErrToken)
	refused(t, "1 \U0001f600 2", 2, api.ErrSyntax)
	refused(t, "key\t \tval", 6, api.ErrSyntax)
	refused(t, "1 +  ", 5, api.ErrSyntax)
	refused(t, "1 +\t\t\t", 6, api.ErrSyntax)
	refused(t, "  (1  ", 6, api.ErrSyntax)
	refused(t, "if 1 then 2 ", 12, api.ErrSyntax)
	refused(t, " - ", 3, api.ErrSyntax)
	refused(t, "1 <= 2   <= 3", 9, api.ErrSyntax)
	refused(t, strings.Repeat(" ", 398)+"1+", 400, api.ErrSyntax)
	refused(t, "1+"+strings.Repeat(" ", 398), 400, api.ErrSyntax)
	refused(t, "1"+strings.Repeat(" ", 398)+"2", 399, api.ErrSyntax)
	refused(t, "("+strings.Repeat("\u00df", 199), 1, api.ErrSyntax)
}

// TestTokenErrors: P8.1: lex's errors and places go ahead of all others, wherever they stand.
func TestTokenErrors(t *testing.T) {
	for _, c := range []struct {
		s  string
		at int
		e  api.Errno
	}{
		{"$", 0, api.ErrToken}, {"1 $", 2, api.ErrToken}, {"1 + 2 > 3", 6, api.ErrToken}, {"1 1 $", 4, api.ErrToken}, {") $", 2, api.ErrToken}, {"\u00df \u00df $", 4, api.ErrToken},
		{"(((1 $", 5, api.ErrToken}, {"if $", 3, api.ErrToken}, {"if then $ 1", 8, api.ErrToken}, {"1 < 2 < 3 ?", 10, api.ErrToken}, {"1\n", 1, api.ErrToken}, {"1\u00a0", 1, api.ErrToken},
		{"9223372036854775808", 0, api.ErrBig}, {"1 + 9223372036854775808", 4, api.ErrBig}, {") 9223372036854775808", 2, api.ErrBig}, {"key val acc 9223372036854775808 $", 12, api.ErrBig},
		{"$ 9223372036854775808", 0, api.ErrToken}, {"\u20ac 9223372036854775808 $", 2, api.ErrBig}, {"1 + \xff", 4, api.ErrToken}, {"\xc3", 0, api.ErrToken}, {"key\x00", 3, api.ErrToken},
		{strings.Repeat("-", 20) + "1 $", 22, api.ErrToken}, {strings.Repeat("-", 20) + "9223372036854775808", 20, api.ErrBig},
	} {
		refused(t, c.s, c.at, c.e)
		if _, at, e := lex.Tokens(c.s); at != c.at || e != c.e {
			t.Errorf("Tokens(%q) = %d, error %d", c.s, at, e)
		}
	}
}

// TestLong: P8.1: texts of MaxText bytes, and of one more; ErrLong goes ahead of all else.
func TestLong(t *testing.T) {
	reads(t, strings.Repeat(" ", 399)+"1", num(1))
	reads(t, "1"+strings.Repeat("\t", 399), num(1))
	reads(t, strings.Repeat("0", 399)+"7", num(7))
	reads(t, strings.Repeat("(", 199)+"1"+strings.Repeat(")", 199)+" ", num(1))
	reads(t, strings.Repeat("(", 199)+"12"+strings.Repeat(")", 199), num(12))
	reads(t, strings.Repeat("(", 198)+"1+1"+strings.Repeat(")", 198)+" ", of(7, num(1), num(1)))
	refused(t, strings.Repeat("k", 400), 0, api.ErrSyntax)
	refused(t, strings.Repeat("1+", 200), 400, api.ErrSyntax)
	refused(t, strings.Repeat("-", 400), 400, api.ErrSyntax)
	refused(t, strings.Repeat("!", 399)+"1", 0, api.ErrDeep)
	refused(t, "1"+strings.Repeat("+1", 199)+" ", 0, api.ErrDeep)
	refused(t, "1 "+strings.Repeat("\u00df", 199), 2, api.ErrSyntax)
	for _, s := range []string{
		strings.Repeat(" ", 400) + "1", "1" + strings.Repeat(" ", 400), strings.Repeat("(", 200) + "1" + strings.Repeat(")", 200), strings.Repeat("k", 401), strings.Repeat("-", 401),
		"$" + strings.Repeat(" ", 400), strings.Repeat("\xff", 401), strings.Repeat("\u00df", 201), "9223372036854775808" + strings.Repeat(" ", 382), "1" + strings.Repeat("+1", 200),
		strings.Repeat("1+", 1<<15) + "1", strings.Repeat("(", 1<<20), strings.Repeat("if ", 1<<19),
	} {
		refused(t, s, 0, api.ErrLong)
	}
}

// deepest is an expression of one Op, just so deep, by its first Arg.
func deepest(op uint8, deep int) api.Expr {
	x := num(1)
	for range deep - 1 {
		switch {
		case op <= 6:
			x = of(op, x)
		case op <= 17:
			x = of(op, x, num(1))
		default:
			x = of(op, x, num(1), num(1))
		}
	}
	return x
}

// within tells so many texts around 1.
func within(ahead, behind string, many int) string {
	return strings.Repeat(ahead, many) + "1" + strings.Repeat(behind, many)
}

// TestDeep: P8.1: texts that are MaxDeep deep, and one more, by each kind of part; parentheses count for nothing.
func TestDeep(t *testing.T) {
	for _, c := range []struct{ ahead, behind string }{
		{"-", ""}, {"!", ""}, {"-(", ")"}, {"! ", " "}, {"", "+1"}, {"", "-1"}, {"", "*1"}, {"", "/1"}, {"", "%1"}, {"", "&1"}, {"", "|1"},
		{"(", ")+1"}, {"1+(", ")"}, {"1-(", ")"}, {"(", ")*1"}, {"1*(", ")"}, {"1/(", ")"}, {"1%(", ")"}, {"(", ")<1"}, {"1<(", ")"}, {"1<=(", ")"}, {"(", ")<=1"}, {"1=(", ")"}, {"(", ")=1"}, {"1!=(", ")"}, {"(", ")!=1"},
		{"1&(", ")"}, {"(", ")&1"}, {"1|(", ")"}, {"(", ")|1"}, {"if ", " then 1 else 1"}, {"if 1 then ", " else 1"}, {"if 1 then 1 else ", ""}, {"(if 1 then 1 else (", "))"}, {"1+if 1 then ", " else 1"},
	} {
		for deep := range 20 {
			s := within(c.ahead, c.behind, deep)
			x, at, e := expr.Parse(s)
			one, _, _ := expr.Parse(within(c.ahead, c.behind, 1))
			step := depth(one) - 1
			switch {
			case len(s) > api.MaxText-3:
			case deep*step+1 <= 16:
				if e != api.OK || at != 0 || depth(x) != deep*step+1 || expr.Deep(x) != deep*step+1 || !expr.May(x) {
					t.Errorf("Parse(%q) = %s, %d, error %d", s, line(x), at, e)
				}
			default:
				refused(t, s, 0, api.ErrDeep)
				refused(t, "\t("+s+")", 0, api.ErrDeep)
				refused(t, s+"+", len(s)+1, api.ErrSyntax)
				refused(t, s+")", len(s), api.ErrSyntax)
				refused(t, s+" $", len(s)+1, api.ErrToken)
			}
		}
	}
	for _, s := range []string{"key", "val", "acc", "1"} {
		refused(t, strings.Repeat("-", 16)+s, 0, api.ErrDeep)
		refused(t, "1+"+strings.Repeat("-", 15)+s, 0, api.ErrDeep)
		refused(t, "if 1 then 2 else "+strings.Repeat("-", 15)+s, 0, api.ErrDeep)
		refused(t, "if 1 then "+strings.Repeat("-", 15)+s+" else 2", 0, api.ErrDeep)
		refused(t, "if "+strings.Repeat("-", 15)+s+" then 1 else 2", 0, api.ErrDeep)
	}
	reads(t, strings.Repeat("-", 14)+"1+1", of(7, deepest(5, 15), num(1)))
	refused(t, strings.Repeat("-", 15)+"1+1", 0, api.ErrDeep)
	reads(t, "1+"+strings.Repeat("!", 14)+"1", of(7, num(1), deepest(6, 15)))
}

// depth: how deep x is, by the chapter's words, for such as are not too deep for calls within one another.
func depth(x api.Expr) int {
	deep := 0
	for _, a := range x.Args {
		deep = max(deep, depth(a))
	}
	return deep + 1
}
