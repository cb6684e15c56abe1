package lex_test

import (
	"math"
	"math/big"
	"regexp"
	"slices"
	"strconv"
	"strings"
	"testing"
	"unicode/utf8"

	"changeling/api"
	"changeling/lex"
	"changeling/names"
)

const maxNumber = "9223372036854775807" // 2^63 - 1

// signs: all of them, those of two runes behind the others.
var signs = []string{"+", "-", "*", "/", "%", "(", ")", "&", "|", "!", "=", "<", "!=", "<="}

func name(s string, at int) api.Token { return api.Token{Kind: api.TkName, Text: s, At: at} }

func num(n int64, at int) api.Token { return api.Token{Kind: api.TkNum, N: n, At: at} }

func sign(s string, at int) api.Token { return api.Token{Kind: api.TkSign, Text: s, At: at} }

// tells asks for a text's tokens, all that they have.
func tells(t *testing.T, s string, want ...api.Token) {
	t.Helper()
	if l, at, e := lex.Tokens(s); e != api.OK || at != 0 || !slices.Equal(l, want) {
		t.Errorf("Tokens(%.60q) = %v, %d, error %d, want %v", s, l, at, e, want)
	}
}

// refused asks for an error, its place, and that nothing is told beside them.
func refused(t *testing.T, s string, at int, want api.Errno) {
	t.Helper()
	if l, place, e := lex.Tokens(s); len(l) != 0 || place != at || e != want {
		t.Errorf("Tokens(%.60q) = %v, %d, error %d, want %d, error %d", s, l, place, e, at, want)
	}
}

// TestExamples: the chapter's.
func TestExamples(t *testing.T) {
	tells(t, "key+12 <= \u00fc", name("key", 0), sign("+", 3), num(12, 4), sign("<=", 7), name("\u00fc", 10))
	refused(t, "1 $ 2", 2, api.ErrToken)
	refused(t, "\u00df 9223372036854775808", 2, api.ErrBig)
}

// TestConstants: the kinds and the errors by the numbers that the chapter says.
func TestConstants(t *testing.T) {
	tells(t, "a 5 (", api.Token{Kind: 1, Text: "a"}, api.Token{Kind: 2, N: 5, At: 2}, api.Token{Kind: 3, Text: "(", At: 4})
	refused(t, "#", 0, 70)
	refused(t, "99999999999999999999", 0, 71)
	refused(t, strings.Repeat(" ", 401), 0, 3)
}

// TestOrdinary: P7.1: texts of expressions, and such as no expression has.
func TestOrdinary(t *testing.T) {
	tells(t, "1 + 2 * key", num(1, 0), sign("+", 2), num(2, 4), sign("*", 6), name("key", 8))
	tells(t, "if val<3 then -1 else (acc)", name("if", 0), name("val", 3), sign("<", 6), num(3, 7), name("then", 9), sign("-", 14), num(1, 15), name("else", 17), sign("(", 22), name("acc", 23), sign(")", 26))
	tells(t, "!(a|b)&c%2/1!=0", sign("!", 0), sign("(", 1), name("a", 2), sign("|", 3), name("b", 4), sign(")", 5), sign("&", 6), name("c", 7), sign("%", 8), num(2, 9), sign("/", 10), num(1, 11), sign("!=", 12), num(0, 14))
	tells(t, "key val", name("key", 0), name("val", 4))
	tells(t, ") 7 7 ((", sign(")", 0), num(7, 2), num(7, 4), sign("(", 6), sign("(", 7))
	tells(t, "\u00e4\u00f6=\u03b1+\U0001f600\t\u20ac", name("\u00e4\u00f6", 0), sign("=", 2), name("\u03b1", 3), sign("+", 4), name("\U0001f600", 5), name("\u20ac", 7))
}

// TestBlanks: P7.1: no bytes, blanks and tabs alone, at both ends, and between tokens.
func TestBlanks(t *testing.T) {
	for _, s := range []string{"", " ", "\t", "  ", "\t\t", " \t", "\t \t ", strings.Repeat(" ", 400), strings.Repeat("\t", 400)} {
		tells(t, s)
	}
	tells(t, " a", name("a", 1))
	tells(t, "\ta\t", name("a", 1))
	tells(t, "  \t 12 \t", num(12, 4))
	tells(t, "a \t\t b", name("a", 0), name("b", 5))
	tells(t, "1 2\t3", num(1, 0), num(2, 2), num(3, 4))
	tells(t, "a\tb", name("a", 0), name("b", 2))
	tells(t, " ( \t) ", sign("(", 1), sign(")", 4))
	tells(t, "+ +\t+", sign("+", 0), sign("+", 2), sign("+", 4))
	tells(t, strings.Repeat(" ", 399)+"a", name("a", 399))
	tells(t, "7"+strings.Repeat("\t", 399), num(7, 0))
	l, at, e := lex.Tokens(strings.Repeat("a ", 200))
	if len(l) != 200 || at != 0 || e != api.OK || l[199] != name("a", 398) {
		t.Error(len(l), at, e)
	}
}

// TestLong: P7.1: texts of 400 bytes, and of one more; ErrLong goes ahead of all else.
func TestLong(t *testing.T) {
	a, ss, wide := strings.Repeat("a", 400), strings.Repeat("\u00df", 200), strings.Repeat("\U0001f600", 100)
	tells(t, a, name(a, 0))
	tells(t, ss, name(ss, 0))
	tells(t, wide, name(wide, 0))
	tells(t, strings.Repeat("\u20ac", 133)+"+", name(strings.Repeat("\u20ac", 133), 0), sign("+", 133))
	tells(t, strings.Repeat("\u20ac", 133)+" ", name(strings.Repeat("\u20ac", 133), 0))
	for _, s := range []string{
		a + "a", a + " ", a + "+", ss + "a", ss + " ", wide + "a", wide[:396] + "aaaaa", strings.Repeat("\u20ac", 133) + "\u00df",
		strings.Repeat(" ", 401), strings.Repeat("\t", 401), strings.Repeat("(", 401), strings.Repeat("0", 401), strings.Repeat("9", 401),
		"$" + a, a + "$", strings.Repeat("\xff", 401), strings.Repeat("\ufffd", 134), "9223372036854775808" + strings.Repeat(" ", 382),
		strings.Repeat("a", 402), strings.Repeat("a", 800), strings.Repeat("a", 1<<16), strings.Repeat("1+", 1<<19),
	} {
		refused(t, s, 0, api.ErrLong)
	}
	refused(t, strings.Repeat("a", 399)+"$", 399, api.ErrToken)
	refused(t, strings.Repeat("\u00df", 199)+"a\x00", 200, api.ErrToken)
	refused(t, strings.Repeat(" ", 381)+"9223372036854775808", 381, api.ErrBig)
	refused(t, strings.Repeat("\xff", 400), 0, api.ErrToken)
}

// TestNames: P7.1: letters alone, as many as there are.
func TestNames(t *testing.T) {
	for _, s := range []string{
		"a", "z", "A", "Z", "abc", "aZ", "key", "if", "azAZ", "abcdefghijklmnopqrstuvwxyzABCDEFGHIJKLMNOPQRSTUVWXYZ",
		"\u00c0", "\u00d7", "\u00df", "\u00ff", "\u0660", "\u3000", "\ufffc", "\ufffe", "\uffff", "\U00010000", "\U0010ffff", "\ufeff",
		"r\u00e4ume", "\u00c0a\u20acb\U0001f600", "\ufffc\ufffe", "a\u3000b",
		strings.Repeat("a", 23), strings.Repeat("a", 24), strings.Repeat("a", 25), strings.Repeat("\u00df", 25), strings.Repeat("ab", 100),
	} {
		tells(t, s, name(s, 0))
		tells(t, " "+s+"\t", name(s, 1))
		tells(t, "("+s+")", sign("(", 0), name(s, 1), sign(")", 1+utf8.RuneCountInString(s)))
	}
	for _, s := range []string{"`", "{", "@", "[", "\u00bf", "\u00aa", "\u00b5", "\u00a0", "\u0085", "\x7f", "\ufffd", "_", ".", "\n"} {
		refused(t, s, 0, api.ErrToken)
		refused(t, "a"+s, 1, api.ErrToken)
		refused(t, "a"+s+"a", 1, api.ErrToken)
		refused(t, "\u00c0\u00df"+s, 2, api.ErrToken)
	}
	tells(t, "a-b", name("a", 0), sign("-", 1), name("b", 2)) // no letter, though a name of chapter 1 has it
}

// TestEachRune: P7.1: each rune alone, behind a letter, behind a digit, behind a sign, behind a blank.
func TestEachRune(t *testing.T) {
	const plain = "abcdefghijklmnopqrstuvwxyzABCDEFGHIJKLMNOPQRSTUVWXYZ"
	for r := range rune(utf8.MaxRune + 1) {
		s := string(r) // of halves of pairs U+FFFD
		switch {
		case strings.Contains(plain, s) || r >= 0xc0 && s != "\ufffd":
			tells(t, s, name(s, 0))
			tells(t, "\u00e4"+s, name("\u00e4"+s, 0))
			tells(t, "7"+s, num(7, 0), name(s, 1))
			tells(t, "<"+s, sign("<", 0), name(s, 1))
			tells(t, " "+s, name(s, 1))
		case '0' <= r && r <= '9':
			n := int64(r) - 48
			tells(t, s, num(n, 0))
			tells(t, "\u00e4"+s, name("\u00e4", 0), num(n, 1))
			tells(t, "7"+s, num(70+n, 0))
			tells(t, "<"+s, sign("<", 0), num(n, 1))
			tells(t, " "+s, num(n, 1))
		case r == ' ' || r == '\t':
			tells(t, s)
			tells(t, "\u00e4"+s, name("\u00e4", 0))
			tells(t, "7"+s, num(7, 0))
			tells(t, "<"+s, sign("<", 0))
			tells(t, " "+s)
		case strings.Contains("+-*/%()&|!=<", s):
			tells(t, s, sign(s, 0))
			tells(t, "\u00e4"+s, name("\u00e4", 0), sign(s, 1))
			tells(t, "7"+s, num(7, 0), sign(s, 1))
			tells(t, " "+s, sign(s, 1))
		default:
			refused(t, s, 0, api.ErrToken)
			for _, ahead := range []string{"\u00e4", "7", "<", "!", "(", " ", "\t"} {
				refused(t, ahead+s, 1, api.ErrToken)
			}
		}
		if t.Failed() {
			t.Fatalf("of %U", r)
		}
	}
}

// TestBeside: P7.1: digits right behind letters, and letters right behind digits, are two tokens.
func TestBeside(t *testing.T) {
	tells(t, "ab12", name("ab", 0), num(12, 2))
	tells(t, "12ab", num(12, 0), name("ab", 2))
	tells(t, "a1b2", name("a", 0), num(1, 1), name("b", 2), num(2, 3))
	tells(t, "1a2b", num(1, 0), name("a", 1), num(2, 2), name("b", 3))
	tells(t, "\u00df1\u00df", name("\u00df", 0), num(1, 1), name("\u00df", 2))
	tells(t, "0x10", num(0, 0), name("x", 1), num(10, 2))
	tells(t, "1e9", num(1, 0), name("e", 1), num(9, 2))
	tells(t, "0\u0663", num(0, 0), name("\u0663", 1)) // a digit elsewhere; a letter here
	tells(t, maxNumber+"a"+maxNumber, num(math.MaxInt64, 0), name("a", 19), num(math.MaxInt64, 20))
	tells(t, "a"+maxNumber, name("a", 0), num(math.MaxInt64, 1))
}

// TestNumbers: P7.1: numbers up to 2^63 - 1, with zeros ahead or not.
func TestNumbers(t *testing.T) {
	for s, want := range map[string]int64{
		"0": 0, "1": 1, "9": 9, "10": 10, "19": 19, "90": 90, "1234567890": 1234567890, "400": 400,
		"00": 0, "000000000000000000000000000000": 0, "01": 1, "007": 7, "0000000000000000000000000000012": 12,
		"2147483647": math.MaxInt32, "2147483648": math.MaxInt32 + 1, "4294967296": 1 << 32, "999999999999999999": 999999999999999999, "1000000000000000000": 1000000000000000000,
		"9223372036854775799": math.MaxInt64 - 8, "9223372036854775800": math.MaxInt64 - 7, "9223372036854775806": math.MaxInt64 - 1, maxNumber: math.MaxInt64,
		"922337203685477580": math.MaxInt64 / 10, "922337203685477581": math.MaxInt64/10 + 1, "9223372036854775709": 9223372036854775709,
		"0" + maxNumber: math.MaxInt64, strings.Repeat("0", 381) + maxNumber: math.MaxInt64, strings.Repeat("0", 400): 0, strings.Repeat("0", 399) + "5": 5,
	} {
		tells(t, s, num(want, 0))
		if len(s) < 390 {
			tells(t, "\u00df-"+s+" ", name("\u00df", 0), sign("-", 1), num(want, 2))
		}
	}
	for _, s := range []string{
		"9223372036854775808", "9223372036854775809", "9223372036854775810", "9223372036854775817", "9223372036854775900", "9300000000000000000", "9999999999999999999",
		"10000000000000000000", "18446744073709551615", "18446744073709551616", "18446744073709551621", "36893488147419103239", "92233720368547758070", "92233720368547758080",
		"99999999999999999999", "1" + strings.Repeat("0", 64), "184467440737095516160", "0000000009223372036854775808", maxNumber + maxNumber,
	} {
		refused(t, s, 0, api.ErrBig)
		refused(t, "\u00df"+s, 1, api.ErrBig)
		refused(t, "-"+s, 1, api.ErrBig)
		refused(t, " 1 \u00e4+\t"+s+" a", 6, api.ErrBig)
		refused(t, maxNumber+" "+s, 20, api.ErrBig)
	}
	refused(t, strings.Repeat("9", 400), 0, api.ErrBig)
	refused(t, strings.Repeat("0", 381)+"9223372036854775808", 0, api.ErrBig)
}

// TestNumbersAround: P7.1: numbers around those at which digits, bits or the bound come, held against numbers without a bound.
func TestNumbersAround(t *testing.T) {
	check := func(n *big.Int) {
		switch {
		case n.Sign() < 0:
		case n.IsInt64():
			tells(t, n.String(), num(n.Int64(), 0))
		default:
			refused(t, n.String(), 0, api.ErrBig)
		}
	}
	for bit := range uint(200) {
		for d := int64(-300); d <= 300; d++ {
			two := new(big.Int).Lsh(big.NewInt(1), bit)
			check(two.Add(two, big.NewInt(d)))
		}
	}
	ten := big.NewInt(1)
	for range 60 {
		for first := int64(1); first <= 9; first++ {
			for d := int64(-20); d <= 20; d++ {
				n := new(big.Int).Mul(ten, big.NewInt(first))
				check(n.Add(n, big.NewInt(d)))
			}
		}
		ten.Mul(ten, big.NewInt(10))
	}
}

// TestSigns: P7.1: each sign alone, two together and with a blank or a tab between them.
func TestSigns(t *testing.T) {
	for _, a := range signs {
		tells(t, a, sign(a, 0))
		for _, b := range signs {
			if at := len(a); !slices.Contains(signs, a+b[:1]) {
				tells(t, a+b, sign(a, 0), sign(b, at))
			}
			for _, between := range []string{" ", "\t", " \t"} {
				tells(t, a+between+b, sign(a, 0), sign(b, len(a)+len(between)))
			}
		}
	}
	tells(t, "!=", sign("!=", 0))
	tells(t, "<=", sign("<=", 0))
	tells(t, "! =", sign("!", 0), sign("=", 2))
	tells(t, "<\t=", sign("<", 0), sign("=", 2))
	tells(t, "==", sign("=", 0), sign("=", 1))
	tells(t, "===", sign("=", 0), sign("=", 1), sign("=", 2))
	tells(t, "!==", sign("!=", 0), sign("=", 2))
	tells(t, "<==", sign("<=", 0), sign("=", 2))
	tells(t, "!===", sign("!=", 0), sign("=", 2), sign("=", 3))
	tells(t, "<<=", sign("<", 0), sign("<=", 1))
	tells(t, "!!=", sign("!", 0), sign("!=", 1))
	tells(t, "<!=", sign("<", 0), sign("!=", 1))
	tells(t, "!<=", sign("!", 0), sign("<=", 1))
	tells(t, "=!=", sign("=", 0), sign("!=", 1))
	tells(t, "=<", sign("=", 0), sign("<", 1))
	tells(t, "=!", sign("=", 0), sign("!", 1))
	tells(t, "!=<=", sign("!=", 0), sign("<=", 2))
	tells(t, "!=!", sign("!=", 0), sign("!", 2))
	tells(t, "<=<", sign("<=", 0), sign("<", 2))
	tells(t, "&&", sign("&", 0), sign("&", 1))
	tells(t, "||", sign("|", 0), sign("|", 1))
	tells(t, "<-1", sign("<", 0), sign("-", 1), num(1, 2))
	tells(t, "a<=b", name("a", 0), sign("<=", 1), name("b", 3))
	tells(t, "1!=2", num(1, 0), sign("!=", 1), num(2, 3))
	tells(t, "!a=b", sign("!", 0), name("a", 1), sign("=", 2), name("b", 3))
	tells(t, "<7=", sign("<", 0), num(7, 1), sign("=", 2))
	for _, s := range []string{">", ">=", "\"", "#", "$", "'", ",", ".", ":", ";", "?", "@", "[", "\\", "]", "^", "_", "`", "{", "}", "~"} {
		refused(t, s, 0, api.ErrToken)
		refused(t, "<"+s, 1, api.ErrToken)
		refused(t, "<="+s, 2, api.ErrToken)
	}
	refused(t, "=>", 1, api.ErrToken)
	refused(t, "<>", 1, api.ErrToken)
}

// TestErrors: P7.1: the first error from the left, and the place of its token, in runes.
func TestErrors(t *testing.T) {
	for _, c := range []struct {
		s  string
		at int
		e  api.Errno
	}{
		{"$", 0, api.ErrToken}, {" $", 1, api.ErrToken}, {"\t\t$ a", 2, api.ErrToken}, {"$$", 0, api.ErrToken}, {"a$$", 1, api.ErrToken},
		{"a $", 2, api.ErrToken}, {"ab$", 2, api.ErrToken}, {"ab$cd", 2, api.ErrToken}, {"12$", 2, api.ErrToken}, {"12$34", 2, api.ErrToken}, {"12.5", 2, api.ErrToken},
		{"a+(1_000)", 4, api.ErrToken}, {"\u00e4\u00f6\u00fc$", 3, api.ErrToken}, {"\u20ac \U0001f600 #", 4, api.ErrToken}, {"\u00dfa\u00bfb", 2, api.ErrToken},
		{"a\nb", 1, api.ErrToken}, {"a\r", 1, api.ErrToken}, {"\x00", 0, api.ErrToken}, {"a\v", 1, api.ErrToken}, {"a\f", 1, api.ErrToken}, {"a\u00a0b", 1, api.ErrToken}, {"1\u0085", 1, api.ErrToken},
		{"9223372036854775808$", 0, api.ErrBig}, {"9223372036854775808 $", 0, api.ErrBig}, {"$ 9223372036854775808", 0, api.ErrToken}, {"$9223372036854775808", 0, api.ErrToken},
		{"a $ 9223372036854775808", 2, api.ErrToken}, {"a 9223372036854775808 $", 2, api.ErrBig}, {"9223372036854775807$8", 19, api.ErrToken}, {"922337203685477580\xff8", 18, api.ErrToken},
		{"9223372036854775808 9223372036854775808", 0, api.ErrBig}, {"1 9223372036854775808 92233720368547758080", 2, api.ErrBig}, {"99999999999999999999a9999999999999999999999", 0, api.ErrBig},
		{"\u00df\u00df\t9223372036854775808", 3, api.ErrBig}, {"\u20ac9223372036854775808", 1, api.ErrBig}, {"\U0001f600+9223372036854775808", 2, api.ErrBig}, {"!=9223372036854775808", 2, api.ErrBig},
		{"9223372036854775807 9223372036854775808", 20, api.ErrBig}, {"0 0 00000000000000000000099999999999999999999", 4, api.ErrBig},
	} {
		refused(t, c.s, c.at, c.e)
	}
}

// TestNoUTF8: P7.1: each byte that is no UTF-8 is a rune that begins no token; places are counted in runes.
func TestNoUTF8(t *testing.T) {
	for _, s := range []string{
		"\xff", "\xfe", "\x80", "\xbf", "\xc0", "\xc3", "\xe2", "\xe2\x82", "\xed\xa0\x80", "\xc1\xa1", "\xc0\xb1", "\xf4\x90\x80\x80", "\xf0\x9f\x98", "\xf8\x88\x80\x80\x80", "\ufffd",
	} {
		refused(t, s, 0, api.ErrToken)
		refused(t, "a"+s, 1, api.ErrToken)
		refused(t, "a"+s+"b", 1, api.ErrToken)
		refused(t, "12"+s+"3", 2, api.ErrToken)
		refused(t, "\u00df\u20ac\U0001f600"+s, 3, api.ErrToken)
		refused(t, "\u00df <="+s+"=", 4, api.ErrToken)
		refused(t, "\u00df \t"+s, 3, api.ErrToken)
		refused(t, "9223372036854775808"+s, 0, api.ErrBig)
		refused(t, s+s+" 9223372036854775808", 0, api.ErrToken)
	}
}

// tokenByWords: what a text goes on with, each part as long as it can be.
var tokenByWords = regexp.MustCompile(`^(?:([ \t]+)|([a-zA-Z\x{C0}-\x{FFFC}\x{FFFE}-\x{10FFFF}]+)|([0-9]+)|(!=|<=|[-+*/%()&|!=<]))`)

// byWords: what Tokens is to answer, by the chapter's words, told by a pattern and in numbers without a bound.
func byWords(s string) ([]api.Token, int, api.Errno) {
	if len(s) > 400 {
		return nil, 0, 3
	}
	var l []api.Token
	for at := 0; len(s) > 0; {
		m := tokenByWords.FindStringSubmatch(s)
		switch {
		case m == nil:
			return nil, at, 70
		case m[2] != "":
			l = append(l, api.Token{Kind: 1, Text: m[2], At: at})
		case m[3] != "":
			n, _ := new(big.Int).SetString(m[3], 10)
			if n.Cmp(new(big.Int).Lsh(big.NewInt(1), 63)) >= 0 {
				return nil, at, 71
			}
			l = append(l, api.Token{Kind: 2, N: n.Int64(), At: at})
		case m[4] != "":
			l = append(l, api.Token{Kind: 3, Text: m[4], At: at})
		}
		at += utf8.RuneCountInString(m[0])
		s = s[len(m[0]):]
	}
	return l, 0, 0
}

// holds holds Tokens against the chapter's words, and what follows; it answers whether the text has tokens.
func holds(t *testing.T, s string) bool {
	t.Helper()
	want, place, wrong := byWords(s)
	l, at, e := lex.Tokens(s)
	if !slices.Equal(l, want) || at != place || e != wrong {
		t.Fatalf("Tokens(%q) = %v, %d, error %d, want %v, %d, error %d", s, l, at, e, want, place, wrong)
	}
	if e != api.OK {
		return false
	}
	placed(t, s, l)
	parted(t, l)
	return true
}

// placed: P7.2: places rise, each token stands at its own, and just blanks and tabs stand between.
func placed(t *testing.T, s string, l []api.Token) {
	t.Helper()
	runes, next := []rune(s), 0
	between := func(end int) {
		if next > end || strings.Trim(string(runes[next:end]), " \t") != "" {
			t.Fatalf("Tokens(%q) = %v: ahead of the place %d there is something else", s, l, end)
		}
	}
	for i, k := range l {
		between(k.At)
		text := k.Text
		if k.Kind == api.TkNum {
			text = s[len(string(runes[:k.At])):]
			text = text[:len(text)-len(strings.TrimLeft(text, "0123456789"))]
			if strings.TrimLeft(text, "0") != strings.TrimLeft(strconv.FormatInt(k.N, 10), "0") {
				t.Fatalf("Tokens(%q): %v at %q", s, k, text)
			}
		}
		next = k.At + names.Many(text)
		switch {
		case text == "" || next > len(runes) || string(runes[k.At:next]) != text:
			t.Fatalf("Tokens(%q): %v is not at its place", s, k)
		case i > 0 && k.At <= l[i-1].At:
			t.Fatalf("Tokens(%q) = %v: places do not rise", s, l)
		case k.Kind != api.TkNum && k.N != 0 || k.Kind == api.TkNum && k.Text != "":
			t.Fatalf("Tokens(%q): %v has what its kind does not use", s, k)
		}
	}
	between(len(runes))
}

// parted: P7.2: tokens with blanks and tabs between them are the same tokens, but for their places.
func parted(t *testing.T, l []api.Token) {
	t.Helper()
	for _, between := range []string{" ", "\t", "\t  "} {
		s, want := between, []api.Token(nil)
		for _, k := range l {
			text := k.Text
			if k.Kind == api.TkNum {
				text = strconv.FormatInt(k.N, 10)
			}
			k.At = names.Many(s)
			want = append(want, k)
			s += text + between
		}
		if len(s) <= api.MaxText {
			tells(t, s, want...)
		}
	}
	if t.Failed() {
		t.Fatalf("parted: %v", l)
	}
}

// TestSmallTexts: P7.1, P7.2: all texts of at most four of these parts.
func TestSmallTexts(t *testing.T) {
	parts := []string{"a", "\u00df", "\U0001f600", "0", "7", "922337203685477580", " ", "\t", "!", "<", "=", "-", "(", "$", "\u00bf", "\xff", "\xe2"}
	whole, all := 0, 0
	var grow func(s string, left int)
	grow = func(s string, left int) {
		all++
		if holds(t, s) {
			whole++
		}
		for _, p := range parts {
			if left > 0 {
				grow(s+p, left-1)
			}
		}
	}
	grow("", 4)
	if want := 1 + 17 + 17*17 + 17*17*17 + 17*17*17*17; all != want || whole < want/4 || whole > want/2 {
		t.Error(all, "texts,", whole, "of them of tokens")
	}
}

// TestBytes: P7.1, P7.2: whatever bytes a text has: each, each two, and each behind a letter of two bytes and within a number.
func TestBytes(t *testing.T) {
	for a := range 256 {
		one := string([]byte{byte(a)})
		holds(t, one)
		holds(t, "\u00df"+one+"\u00df")
		holds(t, "92233720368547758"+one+"07")
		for b := range 256 {
			holds(t, one+string([]byte{byte(b)}))
			holds(t, "\xf0\x9f"+one+string([]byte{byte(b)}))
		}
	}
}

// TestLongMixed: P7.1, P7.2: long texts of mixed parts, and of any bytes, from one start.
func TestLongMixed(t *testing.T) {
	parts := []string{"key", "val", "\u00e4\u00f6", "\U0001f600", "x", "0", "12", "007", maxNumber, "922337203685477", " ", "  ", "\t", "!", "=", "<", "!=", "<=", "+", "-", "*", "/", "%", "(", ")", "&", "|"}
	wrong := []string{"$", ">", "\u00a0", "\ufffd", "\x80", "\n", "9223372036854775808", "\xf0\x9f"}
	x := uint64(7)
	pick := func(n int) int {
		x = x*6364136223846793005 + 1442695040888963407
		return int(x >> 33 % uint64(n))
	}
	whole := 0
	for round := range 40000 {
		s := ""
		for range pick(1 + pick(60)) {
			if round%3 == 0 && pick(40) == 0 {
				s += wrong[pick(len(wrong))]
			}
			if p := parts[pick(len(parts))]; len(s)+len(p) <= api.MaxText {
				s += p
			}
		}
		if holds(t, s) {
			whole++
		}
	}
	if whole < 10000 {
		t.Error(whole, "of tokens")
	}
	for range 20000 {
		b := make([]byte, pick(500))
		for i := range b {
			b[i] = byte(pick(256))
		}
		holds(t, string(b))
	}
}

// TestKeepsNothing: R3, R5: what was told stays as it was, whatever is asked behind it, and whatever is done with another answer.
func TestKeepsNothing(t *testing.T) {
	const s = "a 1 !=\u00df 22"
	want := []api.Token{name("a", 0), num(1, 2), sign("!=", 4), name("\u00df", 6), num(22, 8)}
	l, _, _ := lex.Tokens(s)
	other, _, _ := lex.Tokens(s)
	for i := range other {
		other[i] = name("spoilt", 99)
	}
	_ = append(other, name("spoilt", 99))
	refused(t, "b 2 $", 4, api.ErrToken)
	refused(t, "b 9223372036854775808", 2, api.ErrBig)
	tells(t, "+7", sign("+", 0), num(7, 1))
	if !slices.Equal(l, want) {
		t.Error(l)
	}
	tells(t, s, want...)
}
