package sum_test

import (
	"hash/adler32"
	"math"
	"math/big"
	"slices"
	"strings"
	"testing"

	"changeling/sum"
)

// divisor: what chapter 3 divides by.
const divisor = 65521

var zeros, great = strings.Repeat("\x00", 3*divisor), strings.Repeat("\xff", 3*divisor)

// told: some rows, and the halves of their sums, reckoned by hand.
var told = []struct {
	s         string
	high, low uint32
}{
	{"", 0, 1},
	{"\x00", 1, 1}, {"\x01", 2, 2}, {"a", 98, 98}, {"\x7f", 128, 128}, {"\x80", 129, 129}, {"\xff", 256, 256},
	{"\x00\x00", 2, 1}, {"\x01\x00", 4, 2}, {"\x00\x01", 3, 2}, {"ab", 98 + 196, 196}, {"ba", 99 + 196, 196}, {"\xff\xff", 256 + 511, 511},
	{"abc", 98 + 196 + 295, 295},
	{"Wikipedia", 300286872 >> 16, 300286872 & 0xffff},
	{zeros[:65520], 65520, 1}, {zeros[:65521], 0, 1}, {zeros[:65522], 1, 1}, {zeros[:2*65521-1], 65520, 1}, {zeros[:2*65521], 0, 1},
	{"\x01" + zeros[:32759], 65520, 2}, {"\x01" + zeros[:32760], 1, 2}, {"\x02" + zeros[:21840], 2, 3},
	// 256 bytes of 255: 1 and 65280; and 256 and 255 times 32896, which is 8388736, or 128 times 65521 and 2048.
	{great[:256], 2048, 65281},
	{great[:256] + "\xee", 2046, 65519}, {great[:256] + "\xef", 2047, 65520}, {great[:256] + "\xf0", 2048, 0}, {great[:256] + "\xf1", 2049, 1},
	{great[:256] + "\xf0\x00\x00", 2048, 0}, {great[:256] + "\xf0\xff", 2303, 255}, {great[:256] + "\xf0\x00\x01", 2049, 1},
	{great[:257], 2063, 15},
}

// byWords: the sum by the words of chapter 3: all together first, divided at the end alone.
func byWords(s string) uint32 {
	a, b := uint64(1), uint64(0)
	for _, c := range []byte(s) {
		a += uint64(c)
		b += a
	}
	return uint32(65536*(b%divisor) + a%divisor)
}

// mixed: so many bytes that are not alike, from one start.
func mixed(many int, x uint32) string {
	b := make([]byte, many)
	for i := range b {
		x = x*1664525 + 1013904223
		b[i] = byte(x >> 24)
	}
	return string(b)
}

// rows: rows of all the lengths at which something begins, of bytes alike and not.
func rows() []string {
	var l []string
	for _, many := range []int{0, 1, 2, 3, 255, 256, 257, 258, 5551, 5552, 5553, 65519, 65520, 65521, 65522, 65535, 65536, 65537, 2*65521 - 1, 2 * 65521, 2*65521 + 1} {
		l = append(l, zeros[:many], great[:many], strings.Repeat("\x01", many), mixed(many, 1), mixed(many, 2))
	}
	for _, c := range told {
		l = append(l, c.s)
	}
	return l
}

// rowOf: a row whose sum has these halves.
func rowOf(low, high uint32) string {
	if low == 0 { // zeros behind it change nothing: all but its last byte comes first
		return rowOf(divisor-1, high) + "\x01"
	}
	s := great[:(low-1)/255] + string([]byte{byte((low - 1) % 255)})
	many := 0
	for b := byWords(s) >> 16; b != high; b = (b + low) % divisor {
		many++
	}
	return s + zeros[:many]
}

// edgeHalves: halves at which something begins.
var edgeHalves = []uint32{0, 1, 2, 255, 256, 32760, 32761, 65265, 65266, 65518, 65519, 65520}

// TestOf: P3.1.
func TestOf(t *testing.T) {
	for _, c := range told {
		if n, want := sum.Of(c.s), 65536*c.high+c.low; n != want {
			t.Errorf("Of(%.20q), %d bytes: %d, want %d", c.s, len(c.s), n, want)
		}
	}
	if n := sum.Of(); n != 1 {
		t.Errorf("Of() = %d", n)
	}
	if n := sum.Of([]string{}...); n != 1 {
		t.Errorf("Of of an empty list = %d", n)
	}
	if n := sum.Of("Wikipedia"); n != 300286872 {
		t.Errorf("Of(Wikipedia) = %d", n)
	}
	for b := range 256 {
		s := string([]byte{byte(b)})
		if n, want := sum.Of(s), uint32(65536*(1+b)+1+b); n != want {
			t.Errorf("Of(%q) = %d, want %d", s, n, want)
		}
	}
}

// TestOfByWords: P3.1: long rows, too.
func TestOfByWords(t *testing.T) {
	for _, s := range append(rows(), mixed(1<<20, 3), strings.Repeat("\xff", 1<<20), strings.Repeat("\xfe\x00", 1<<19)) {
		n, want := sum.Of(s), byWords(s)
		if n != want || n != adler32.Checksum([]byte(s)) {
			t.Errorf("Of(%.20q), %d bytes: %d, want %d", s, len(s), n, want)
		}
	}
}

// TestOfParts: P3.1: it is the same however the bytes are parted.
func TestOfParts(t *testing.T) {
	for _, parts := range [][]string{
		{""}, {"", ""}, {"", "", "", ""},
		{"Wikipedia"}, {"Wiki", "pedia"}, {"", "Wikipedia"}, {"Wikipedia", ""}, {"", "Wiki", "", "", "pedia", ""}, {"W", "i", "k", "i", "p", "e", "d", "i", "a"},
		{"ab", "c"}, {"c", "ab"}, {"\x00", ""}, {"", "\x00"}, {"\x00", "\x00", "\xff"},
		{great, zeros, great}, {zeros, "", great[:257], mixed(70000, 4), "\xff"},
		strings.Split(great[:1000], ""), strings.Split(mixed(70000, 5), "\x07"), make([]string, 100000),
	} {
		before := slices.Clone(parts)
		s := strings.Join(parts, "")
		if n, want := sum.Of(parts...), byWords(s); n != want || n != sum.Of(s) {
			t.Errorf("Of(%.40q): %d, want %d", parts, n, want)
		}
		if !slices.Equal(parts, before) {
			t.Errorf("Of changed %.40q", parts)
		}
	}
	for _, s := range []string{"Wikipedia", great[:600], mixed(600, 6)} {
		for i := range len(s) + 1 {
			for _, j := range []int{i, (i + len(s)) / 2, len(s)} {
				if n, want := sum.Of(s[:i], s[i:j], s[j:]), byWords(s); n != want {
					t.Fatalf("Of of %d bytes, cut at %d and %d: %d, want %d", len(s), i, j, n, want)
				}
			}
		}
	}
}

// TestMore: P3.1: behind no byte, and behind many.
func TestMore(t *testing.T) {
	for _, s := range rows() {
		if n, want := sum.More(1, s), byWords(s); n != want {
			t.Errorf("More(1, %.20q), %d bytes: %d, want %d", s, len(s), n, want)
		}
		for _, cut := range []int{0, 1, len(s) / 3, len(s) - 1, len(s)} {
			cut = min(max(cut, 0), len(s))
			if n, want := sum.More(byWords(s[:cut]), s[cut:]), byWords(s); n != want {
				t.Errorf("More, %.20q of %d bytes, cut at %d: %d, want %d", s, len(s), cut, n, want)
			}
		}
	}
	n := uint32(1)
	for i := range 1000 {
		if n != byWords(great[:i]) {
			t.Fatalf("behind %d bytes: %d, want %d", i, n, byWords(great[:i]))
		}
		n = sum.More(n, "\xff")
	}
}

// TestMoreFromEdges: P3.1: from sums whose halves are 0, 65520, and near these.
func TestMoreFromEdges(t *testing.T) {
	for _, low := range edgeHalves {
		for _, high := range edgeHalves {
			ahead, from := rowOf(low, high), 65536*high+low
			if n := sum.Of(ahead); n != from {
				t.Fatalf("Of(%.20q), %d bytes: %d, want %d", ahead, len(ahead), n, from)
			}
			for _, s := range []string{"", "\x00", "\x01", "\x02", "\xfe", "\xff", "\x00\x00", "\x01\xff", "\xff\xff\xff", "abc", great[:300], mixed(300, 7)} {
				if n, want := sum.More(from, s), byWords(ahead+s); n != want {
					t.Errorf("More(%d, %.20q): %d, want %d", from, s, n, want)
				}
			}
		}
	}
}

// TestJoin: P3.2: two rows, of each some of all lengths.
func TestJoin(t *testing.T) {
	if n := sum.Join(sum.Of("ab"), sum.Of("c"), 1); n != sum.Of("abc") || n != byWords("abc") {
		t.Errorf("Join(Of(ab), Of(c), 1) = %d", n)
	}
	l, sums := rows(), []uint32{}
	for _, s := range l {
		sums = append(sums, byWords(s))
	}
	for i, s := range l {
		for j, u := range l {
			if len(u) > 300 && (i+j)%11 != 0 {
				continue // of long rows some do
			}
			if n, want := sum.Join(sums[i], sums[j], len(u)), sum.More(sums[i], u); n != want {
				t.Errorf("Join of %.20q, %d bytes, and %.20q, %d bytes: %d, want %d", s, len(s), u, len(u), n, want)
			}
		}
	}
	long := mixed(1<<20, 8)
	for _, cut := range []int{0, 1, 65520, 65521, 65522, 1 << 19, 1<<20 - 65522, 1<<20 - 65521, 1<<20 - 65520, 1<<20 - 1, 1 << 20} {
		if n, want := sum.Join(byWords(long[:cut]), byWords(long[cut:]), len(long)-cut), byWords(long); n != want {
			t.Errorf("Join of 2^20 bytes, cut at %d: %d, want %d", cut, n, want)
		}
	}
}

// TestJoinEdges: P3.2: each pair of halves in either row.
func TestJoinEdges(t *testing.T) {
	behind := map[string]uint32{}
	for _, low := range edgeHalves {
		for _, high := range edgeHalves {
			behind[rowOf(low, high)] = 65536*high + low
		}
	}
	for _, ahead := range behind { // of the row ahead only its sum is asked
		for s, b := range behind {
			if n, want := sum.Join(ahead, b, len(s)), joinByWords(ahead, b, big.NewInt(int64(len(s)))); n != want {
				t.Errorf("Join(%d, %d, %d) = %d, want %d", ahead, b, len(s), n, want)
			}
		}
		for _, s := range []string{"", "\x00", "\x01", "\xff", "abc", great[:300]} {
			if n, want := sum.Join(ahead, byWords(s), len(s)), sum.More(ahead, s); n != want {
				t.Errorf("Join(%d, Of(%.20q), %d) = %d, want %d", ahead, s, len(s), n, want)
			}
		}
	}
}

// joinByWords: the first row's sum ends where the second one's begins anew from 1.
func joinByWords(a, b uint32, many *big.Int) uint32 {
	low := int64(a%65536) - 1
	high := new(big.Int).Mul(many, big.NewInt(low))
	high.Add(high, big.NewInt(int64(a/65536)+int64(b/65536)))
	high.Mod(high, big.NewInt(divisor))
	return uint32(65536*high.Int64() + (low+int64(b%65536)+divisor)%divisor)
}

// ofAlike: the sum of so many bytes that are all c.
func ofAlike(c int64, many *big.Int) uint32 {
	low := new(big.Int).Mul(big.NewInt(c), many)
	low.Add(low, big.NewInt(1))
	high := new(big.Int).Add(many, big.NewInt(1)) // c times 1, and 2, and so on up to many; and many times 1
	high.Mul(high, many).Div(high, big.NewInt(2)).Mul(high, big.NewInt(c)).Add(high, many)
	low.Mod(low, big.NewInt(divisor))
	high.Mod(high, big.NewInt(divisor))
	return uint32(65536*high.Int64() + low.Int64())
}

// TestJoinGreat: P3.2: rows of more bytes than there can be.
func TestJoinGreat(t *testing.T) {
	for _, c := range []int64{0, 1, 97, 128, 255} {
		if s := strings.Repeat(string([]byte{byte(c)}), 70000); ofAlike(c, big.NewInt(70000)) != byWords(s) {
			t.Fatal("ofAlike of", c)
		}
		for _, behind := range []int{65520, 65521, 65522, 1 << 20, 65521 * 65521, 1<<32 - 1, 1 << 32, 1<<32 + 1, 1 << 62, math.MaxInt - 65521, math.MaxInt - 1, math.MaxInt} {
			many := big.NewInt(int64(behind))
			for _, ahead := range []int64{0, 1, 256, 257, 65520, 65521, 65522, 1 << 33, math.MaxInt64} {
				all := new(big.Int).Add(big.NewInt(ahead), many)
				if n, want := sum.Join(ofAlike(c, big.NewInt(ahead)), ofAlike(c, many), behind), ofAlike(c, all); n != want {
					t.Errorf("Join of %d and %d bytes of %d: %d, want %d", ahead, behind, c, n, want)
				}
			}
			for _, low := range edgeHalves {
				for _, high := range edgeHalves {
					a := 65536*high + low
					if n, want := sum.Join(a, ofAlike(c, many), behind), joinByWords(a, ofAlike(c, many), many); n != want {
						t.Errorf("Join(%d, that of %d bytes of %d): %d, want %d", a, behind, c, n, want)
					}
				}
			}
		}
	}
}

// TestJoinBelow: P3.2: many that is below 0 is none.
func TestJoinBelow(t *testing.T) {
	for _, low := range edgeHalves {
		for _, high := range edgeHalves {
			a := 65536*high + low
			for _, many := range []int{0, -1, -2, -65520, -65521, -65522, math.MinInt32, math.MinInt + 65521, math.MinInt + 1, math.MinInt} {
				if n := sum.Join(a, 1, many); n != a {
					t.Errorf("Join(%d, 1, %d) = %d", a, many, n)
				}
				for _, b := range []uint32{byWords("c"), byWords("Wikipedia"), byWords(great), 0, 65520<<16 + 65520} {
					if n, want := sum.Join(a, b, many), joinByWords(a, b, new(big.Int)); n != want {
						t.Errorf("Join(%d, %d, %d) = %d, want %d", a, b, many, n, want)
					}
				}
			}
		}
	}
}

// TestJoinFollows: P3.2: rows are joined in whatever order.
func TestJoinFollows(t *testing.T) {
	l := []string{"", "a", "\xff\x00", great[:257], zeros[:65521], mixed(65522, 9), mixed(200000, 10)}
	for _, r := range l {
		for _, s := range l {
			for _, u := range l {
				a, b, c := sum.Of(r), sum.Of(s), sum.Of(u)
				left := sum.Join(sum.Join(a, b, len(s)), c, len(u))
				right := sum.Join(a, sum.Join(b, c, len(u)), len(s)+len(u))
				if left != right || left != sum.Of(r, s, u) {
					t.Errorf("of %d, %d, %d bytes: %d, %d, want %d", len(r), len(s), len(u), left, right, sum.Of(r, s, u))
				}
			}
		}
	}
}

// TestSpoilt: P3.3.
func TestSpoilt(t *testing.T) {
	for _, s := range []string{"\x00", "\x80", "\xff", "ab", "Wikipedia", zeros[:40], great[:257], great[:256] + "\xf0", mixed(300, 11)} {
		b := []byte(s)
		for i := range b {
			checkSpoilt(t, b, i)
		}
	}
	for _, s := range []string{zeros[:65522], great[:65522], mixed(65522, 12)} {
		b := []byte(s)
		for _, i := range []int{0, 1, 65521} {
			checkSpoilt(t, b, i)
		}
	}
}

// checkSpoilt puts each other byte at i, and the right one again.
func checkSpoilt(t *testing.T, b []byte, i int) {
	t.Helper()
	right, n := b[i], sum.Of(string(b))
	for c := range 256 {
		b[i] = byte(c)
		if got := sum.Of(string(b)); (got == n) != (b[i] == right) {
			t.Errorf("%d bytes, at %d %d in place of %d: %d, it was %d", len(b), i, c, right, got, n)
		}
	}
	b[i] = right
}

// TestWrong: R1 of the document: halves of 65521 or more, which no bytes' sum has; each call ends.
func TestWrong(t *testing.T) {
	wrong := []uint32{65521, 65522, 65535, 65521 << 16, 65521<<16 + 1, 65535 << 16, 65521<<16 + 65521, 1<<16 + 65521, 65520<<16 + 65535, 65535<<16 + 65520, math.MaxUint32 - 1, math.MaxUint32}
	for _, n := range wrong {
		for _, s := range []string{"", "\x00", "\xff", "Wikipedia", great, mixed(70000, 13)} {
			if sum.More(n, s) != sum.More(n, s) {
				t.Errorf("More(%d, %.20q) is not the same twice", n, s)
			}
		}
		for _, m := range append(wrong, 0, 1, 300286872) {
			for _, many := range []int{math.MinInt, -65521, -1, 0, 1, 9, 65520, 65521, 65522, 1 << 32, math.MaxInt} {
				if sum.Join(n, m, many) != sum.Join(n, m, many) || sum.Join(m, n, many) != sum.Join(m, n, many) {
					t.Errorf("Join of %d and %d, %d bytes, is not the same twice", n, m, many)
				}
			}
		}
	}
}
