package names_test

import (
	"math"
	"slices"
	"strings"
	"testing"
	"unicode/utf8"

	"changeling/api"
	"changeling/names"
)

// noUTF8 are texts in which some bytes are no UTF-8, and how many runes they have.
var noUTF8 = map[string]int{
	"\xff":             1,
	"a\xff\xfeb":       4,
	"\xe2\x82":         2, // a rune of three bytes, cut
	"\xed\xa0\x80":     3, // half of a pair
	"\xc1\xa1":         2, // a, in a longer form
	"\xf4\x90\x80\x80": 4, // above U+10FFFF
	"\x80\u00df\xbf":   3, // what goes on, and nothing ahead of it
	"\xf0\x9f\x98a":    4, // cut by a letter
	"\u00e4\xc3":       2, // cut by the end
	"\xff\ufffd":       2, // beside U+FFFD itself
}

// smallTexts calls f with all texts of at most four of these parts.
func smallTexts(f func(s string)) {
	parts := []string{"a", "Z", "\u00df", "\U0001f600", "7", "-", " ", "\t", "\x07", "\u00bf", "\ufffd", "\xff", "\xe2"}
	var grow func(s string, left int)
	grow = func(s string, left int) {
		f(s)
		for _, p := range parts {
			if left > 0 {
				grow(s+p, left-1)
			}
		}
	}
	grow("", 4)
}

// TestName: P1.1.
func TestName(t *testing.T) {
	for _, s := range []string{
		"a", "z", "A", "Z", "\u00c0", "\u00d7", "\u00df", "\ufffc", "\ufffe", "\U0010ffff",
		"r\u00e4ume-7", "a-", "a--", "a0", "a9", "a-7-b", "\u03b1\u03b2\u03b3", "\u3000",
		strings.Repeat("a", 24), "a" + strings.Repeat("-", 23), "a" + strings.Repeat("7", 23),
		strings.Repeat("\u00df", 24), strings.Repeat("\U0010ffff", 24),
	} {
		if !names.Name(s) {
			t.Errorf("%q is a name", s)
		}
	}
	for _, s := range []string{
		"", "7a", "7", "-a", "-", "a b", " a", "a ", "a\tb", "a\n", "a\x00", "\x00", "a_b", "a.b", "a/", "a:", "@", "[", "`", "{", "a@", "a[", "a`", "a{",
		"\u00bf", "a\u00bf", "\u00aa", "\u00b5", "a\u00a0", "\x7f", "a\u0085",
		"\ufffd", "a\ufffd", "a\ufffdb", "\xff", "a\xff", "\xffa", "a\xe2\x82",
		strings.Repeat("a", 25), strings.Repeat("\u00df", 25), "a" + strings.Repeat("-", 24), strings.Repeat("a", 24) + "\xff", strings.Repeat("a", 100000),
	} {
		if names.Name(s) {
			t.Errorf("%q is no name", s)
		}
	}
}

// TestNameEachRune: P1.1: each rune at the beginning, and behind a letter.
func TestNameEachRune(t *testing.T) {
	const digitsAndSign = "0123456789-"
	const plain = "abcdefghijklmnopqrstuvwxyzABCDEFGHIJKLMNOPQRSTUVWXYZ"
	for r := range rune(utf8.MaxRune + 1) {
		s := string(r) // of halves of pairs U+FFFD
		first := strings.Contains(plain, s) || r >= 0xc0 && s != "\ufffd"
		if names.Name(s) != first {
			t.Fatalf("Name of %U: %v", r, !first)
		}
		other := first || strings.Contains(digitsAndSign, s)
		if names.Name("a"+s) != other {
			t.Fatalf("Name of a and %U: %v", r, !other)
		}
	}
}

// TestMany: P1.1.
func TestMany(t *testing.T) {
	for s, want := range map[string]int{
		"": 0, "a": 1, "\u00f6\u00df": 2, "\u20ac": 1, "\U0001f600\x00": 2, " \t\n": 3, "\ufffd": 1,
		strings.Repeat("\u00df", 100000): 100000,
	} {
		if n := names.Many(s); n != want {
			t.Errorf("Many(%.20q) = %d, want %d", s, n, want)
		}
	}
	for s, want := range noUTF8 {
		if n := names.Many(s); n != want {
			t.Errorf("Many(%q) = %d, want %d", s, n, want)
		}
	}
}

// TestWords: P1.2.
func TestWords(t *testing.T) {
	for s, want := range map[string][]string{
		"":                 nil,
		" ":                nil,
		"\t \t":            nil,
		"a":                {"a"},
		"  a bc ":          {"a", "bc"},
		"\ta\t\tb \t c\t":  {"a", "b", "c"},
		"b a b":            {"b", "a", "b"},
		"\u00f6 \u00df\ta": {"\u00f6", "\u00df", "a"},
		"7 -x !\"#~ \x7f":  {"7", "-x", "!\"#~", "\x7f"},
		"a\u00a0b\u3000c\u2003d\u0085e \u00bf\ufeff": {"a\u00a0b\u3000c\u2003d\u0085e", "\u00bf\ufeff"},
		"\ufffc \ufffe":                          {"\ufffc", "\ufffe"},
		strings.Repeat("a", 400):                 {strings.Repeat("a", 400)},
		strings.Repeat("\u00df", 200):            {strings.Repeat("\u00df", 200)},
		strings.Repeat(" ", 399) + "a":           {"a"},
		strings.Repeat(" ", 400):                 nil,
		"a" + strings.Repeat("\t", 398) + "\x7f": {"a", "\x7f"},
	} {
		l, e := names.Words(s)
		if e != api.OK || !slices.Equal(l, want) {
			t.Errorf("Words(%.40q) = %q, %d, want %q", s, l, e, want)
		}
	}
	if l, e := names.Words(strings.Repeat("a ", 200)); e != api.OK || len(l) != 200 {
		t.Errorf("two hundred words: %d, %d", len(l), e)
	}
}

// TestWordsErrors: P1.2: ErrLong goes ahead of ErrRune; nothing is told beside an error.
func TestWordsErrors(t *testing.T) {
	texts := map[string]api.Errno{
		strings.Repeat("a", 401):            api.ErrLong,
		strings.Repeat(" ", 401):            api.ErrLong,
		strings.Repeat("\u00df", 200) + "a": api.ErrLong, // 201 runes
		"\x07" + strings.Repeat("a", 400):   api.ErrLong,
		strings.Repeat("\xff", 401):         api.ErrLong,
		strings.Repeat("a", 100000):         api.ErrLong,
		"a\x07":                             api.ErrRune,
		"\ufffd":                            api.ErrRune,
		"a \ufffd b":                        api.ErrRune,
		"a b\n":                             api.ErrRune,
		strings.Repeat("a", 399) + "\xff":   api.ErrRune,
		strings.Repeat("a ", 199) + "a\x1f": api.ErrRune,
	}
	for r := range rune(' ') {
		if r != '\t' {
			texts["a "+string(r)+" b"] = api.ErrRune
			texts[string(r)] = api.ErrRune
		}
	}
	for s := range noUTF8 {
		texts[s] = api.ErrRune
	}
	for s, want := range texts {
		if l, e := names.Words(s); e != want || len(l) != 0 {
			t.Errorf("Words(%.40q) = %q, %d, want %d", s, l, e, want)
		}
	}
}

// TestAt: P1.2.
func TestAt(t *testing.T) {
	for _, c := range []struct {
		s  string
		n  int
		r  rune
		at int
	}{
		{"\u00f6\u00df", 0, 0xf6, 0},
		{"\u00f6\u00df", 1, 0xdf, 2},
		{"a", 0, 'a', 0},
		{"\x00", 0, 0, 0},
		{"a\u20ac\U0001f600b", 1, 0x20ac, 1},
		{"a\u20ac\U0001f600b", 2, 0x1f600, 4},
		{"a\u20ac\U0001f600b", 3, 'b', 8},
		{"a\xff\xfeb", 1, 0xfffd, 1},
		{"a\xff\xfeb", 2, 0xfffd, 2},
		{"a\xff\xfeb", 3, 'b', 3},
		{"\u00e4\xe2\x82", 2, 0xfffd, 3},
		{"\ufffda", 0, 0xfffd, 0},
		{"\ufffda", 1, 'a', 3},
		{strings.Repeat("\u00df", 1000), 999, 0xdf, 1998},
	} {
		if r, at, e := names.At(c.s, c.n); r != c.r || at != c.at || e != api.OK {
			t.Errorf("At(%.20q, %d) = %U, %d, %d, want %U, %d", c.s, c.n, r, at, e, c.r, c.at)
		}
	}
}

// TestAtErrors: P1.2: places that no rune has.
func TestAtErrors(t *testing.T) {
	for _, s := range []string{"", "a", "\u00f6\u00df", "\xff\xfe", "a\ufffd"} {
		many := names.Many(s)
		for _, n := range []int{math.MinInt, -1000, -2, -1, many, many + 1, 1000, math.MaxInt} {
			if r, at, e := names.At(s, n); r != 0 || at != 0 || e != api.ErrArg {
				t.Errorf("At(%q, %d) = %U, %d, %d", s, n, r, at, e)
			}
		}
	}
}

// TestTurned: P1.3.
func TestTurned(t *testing.T) {
	for s, want := range map[string]string{
		"a": "a", "ab": "ba", "a\u00dfc": "c\u00dfa", "ab1": "ab1", "ab-": "ab-", "a1b": "b1a", "a-7B": "B7-a", "a7": "a7",
		"x\u00c0\u20ac\U0001f600":                "\U0001f600\u20ac\u00c0x",
		"abcdefghijklmnopqrstuvwx":               "xwvutsrqponmlkjihgfedcba",
		"b" + strings.Repeat("\u00df", 23):       strings.Repeat("\u00df", 23) + "b",
		"b" + strings.Repeat("\u00df", 22) + "9": "b" + strings.Repeat("\u00df", 22) + "9",
	} {
		if u, e := names.Turned(s); u != want || e != api.OK {
			t.Errorf("Turned(%q) = %q, %d, want %q", s, u, e, want)
		}
	}
	for _, s := range []string{"", "7a", "1", "-", "a b", "a ", "\ufffd", "a\xff", "\xff", "\u00bf", "a\u00bf", strings.Repeat("a", 25), strings.Repeat("\u00df", 100000)} {
		if u, e := names.Turned(s); u != "" || e != api.ErrArg {
			t.Errorf("Turned(%.20q) = %q, %d, want ErrArg", s, u, e)
		}
	}
}

// TestNamesFollow: P1.4, of names, and P1.3: what is turned stands in the other order, if that is a name.
func TestNamesFollow(t *testing.T) {
	many := 0
	check := func(s string) {
		u, e := names.Turned(s)
		if !names.Name(s) {
			if u != "" || e != api.ErrArg {
				t.Errorf("Turned(%q) = %q, %d", s, u, e)
			}
			return
		}
		many++
		if l, e := names.Words(s); e != api.OK || !slices.Equal(l, []string{s}) {
			t.Errorf("Words(%q) = %q, %d", s, l, e)
		}
		other := []rune(s)
		slices.Reverse(other)
		want := s
		if names.Name(string(other)) {
			want = string(other)
		}
		if u != want || e != api.OK || !names.Name(u) {
			t.Errorf("Turned(%q) = %q, %d, want %q", s, u, e, want)
		}
		if back, e := names.Turned(u); back != s || e != api.OK {
			t.Errorf("Turned(%q) = %q, %d, want %q", u, back, e, s)
		}
	}
	smallTexts(check)
	check(strings.Repeat("\U0010ffff", 23) + "-")
	check("a" + strings.Repeat("\U0010ffff", 23))
	if many != 2+4+4*6+4*6*6+4*6*6*6 {
		t.Error(many, "names")
	}
}

// TestRunesFollow: P1.4, of runes: one behind the other they are the text, unless one is U+FFFD.
func TestRunesFollow(t *testing.T) {
	smallTexts(func(s string) {
		all, spoilt := "", false
		for n := range names.Many(s) {
			r, at, e := names.At(s, n)
			if e != api.OK || !spoilt && at != len(all) {
				t.Errorf("At(%q, %d) = %U, %d, %d", s, n, r, at, e)
			}
			spoilt = spoilt || r == 0xfffd
			all += string(r)
		}
		if _, _, e := names.At(s, names.Many(s)); e != api.ErrArg {
			t.Errorf("At(%q, Many) = %d", s, e)
		}
		if !spoilt && all != s || spoilt != strings.ContainsAny(s, "\ufffd") {
			t.Errorf("the runes of %q are %q", s, all)
		}
	})
}

// TestWordsFollow: P1.2: what words are, told in another way.
func TestWordsFollow(t *testing.T) {
	smallTexts(func(s string) {
		var want []string
		e := api.ErrRune
		if utf8.ValidString(s) && !strings.ContainsAny(s, "\x07\ufffd") {
			want, e = strings.FieldsFunc(s, func(r rune) bool { return r == 0x20 || r == 0x09 }), api.OK
		}
		if l, got := names.Words(s); got != e || !slices.Equal(l, want) {
			t.Errorf("Words(%q) = %q, %d, want %q, %d", s, l, got, want, e)
		}
	})
}
