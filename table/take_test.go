package table_test

import (
	"encoding/hex"
	"math"
	"slices"
	"strings"
	"testing"

	"changeling/api"
	"changeling/group"
	"changeling/table"
)

// unhex makes bytes of two digits each, to the base 16; blanks and line ends may stand between them.
func unhex(t *testing.T, s string) string {
	t.Helper()
	b, err := hex.DecodeString(strings.Join(strings.Fields(s), ""))
	if err != nil {
		t.Fatal(err)
	}
	return string(b)
}

// both asks Bytes and Take.
func both(t *testing.T, s string, l ...entry) {
	t.Helper()
	if told := tableOf(t, l...).Bytes(); told != s {
		t.Errorf("Bytes() of %v = % x, want % x", l, told, s)
	}
	taken(t, s, wordsOf(l...))
}

// TestBytes: P16.3: some tables, and their bytes written out by hand.
func TestBytes(t *testing.T) {
	both(t, unhex(t, "00"))
	both(t, unhex(t, "02  00 00 00"), entry{})
	both(t, unhex(t, "02  10 02 00"), entry{8, 1, nil})
	both(t, unhex(t, "06  00 04 00  10 02 00  02 00 02 0a"), entry{8, 1, nil}, entry{0, 2, nil}, entry{1, 0, []int64{5}})
	both(t, unhex(t, "04  10 01 04 80 01 00  01 09 00"), entry{-1, -5, nil}, entry{8, -1, []int64{64, 0}})
	both(t, unhex(t, "04  ff ff ff ff ff ff ff ff ff 01 00 00  fe ff ff ff ff ff ff ff ff 01 ff ff ff ff ff ff ff ff ff 01 02 fe ff ff ff ff ff ff ff ff 01"),
		entry{math.MaxInt64, math.MinInt64, []int64{math.MaxInt64}}, entry{math.MinInt64, 0, nil})
	both(t, unhex(t, "02  06 0e 20 02 04 06 08 0a 0c 0e 10 12 14 16 18 1a 1c 1e 20"), entry{3, 7, []int64{1, 2, 3, 4, 5, 6, 7, 8, 9, 10, 11, 12, 13, 14, 15, 16}})
	both(t, unhex(t, "10  00 00 00  02 00 00  04 00 00  06 00 00  08 00 00  0a 00 00  0c 00 00  0e 00 00"), entry{key: 7}, entry{key: 6}, entry{key: 5}, entry{key: 4}, entry{key: 3}, entry{key: 2}, entry{key: 1}, entry{key: 0})
	both(t, unhex(t, "10  0f 00 00  0d 00 00  0b 00 00  09 00 00  07 00 00  05 00 00  03 00 00  01 00 00"), entry{key: -1}, entry{key: -2}, entry{key: -3}, entry{key: -4}, entry{key: -5}, entry{key: -6}, entry{key: -7}, entry{key: -8})
}

// TestCounts: P16.3: each count that is below 0 or too great, whatever stands behind it.
func TestCounts(t *testing.T) {
	for _, many := range []int64{math.MinInt64, math.MinInt64 + 1, -1 << 32, -320, -8, -2, -1, 321, 322, 328, 512, 1 << 16, 1<<31 - 1, 1 << 32, 1<<32 + 1, 1 << 62, math.MaxInt64} {
		wrong(t, row(many), api.ErrForm)
		wrong(t, row(many)+"\x80", api.ErrForm)
		wrong(t, row(many, 5, 1, 0), api.ErrForm)
	}
	for many := int64(1); many <= 320; many++ {
		wrong(t, row(many), api.ErrShort)
	}
	for _, many := range []int64{math.MinInt64, -1 << 32, -16, -2, -1, 17, 18, 32, 255, 256, 256 + 1, 1 << 16, 1<<32 + 1, math.MaxInt64} {
		wrong(t, row(1, 5, 1, many), api.ErrForm)
		wrong(t, row(1, 5, 1, many)+"\x80\x00", api.ErrForm)
		wrong(t, row(2, 5, 1, 0, 4, 1, many), api.ErrForm)
		wrong(t, row(2, 4, 1, 0, 5, 1, many), api.ErrForm)
		wrong(t, row(1, 5, 1, many)+row(make([]int64, 40)...), api.ErrForm)
	}
	for many := int64(1); many <= 16; many++ {
		wrong(t, row(1, 5, 1, many), api.ErrShort)
		taken(t, row(1, 5, 1, many)+row(make([]int64, many)...), wordsOf(entry{5, 1, make([]int64, many)}))
	}
}

// TestFullBytes: P16.3, P16.4: as many keys as may be; one that is one too many of its group.
func TestFullBytes(t *testing.T) {
	taken(t, wordsOf(full(all...)...).bytes(), wordsOf(full(all...)...))
	for of := range 8 {
		l := full(of)
		taken(t, wordsOf(l...).bytes(), wordsOf(l...))
		s := row(41)
		for _, e := range l {
			s += row(e.key, e.acc, 1, e.key)
		}
		for _, more := range []int64{160, 168, 1 << 40} {
			key := more + int64(of)
			wrong(t, s+row(key, 0, 0), api.ErrForm)
			wrong(t, s+row(key, 0, 1), api.ErrShort) // its row comes first
			wrong(t, s+row(key, 0, 2, 1), api.ErrShort)
			wrong(t, s+row(key, 0, 1)+"\x80", api.ErrShort)
			wrong(t, s+row(key, 0), api.ErrShort)
			wrong(t, s+row(key), api.ErrShort)
			if of < 7 {
				taken(t, s+row(key+1, 0, 0), wordsOf(append(full(of), entry{key: key + 1})...))
			}
			two := row(42) + s[1:]
			wrong(t, two+row(key, 0, 0), api.ErrForm) // ahead of that it ends
			wrong(t, two+row(key, 0, 0)+"\x80", api.ErrForm)
			wrong(t, two+row(key, 0, 0, key, 0, 0), api.ErrForm)
		}
		wrong(t, s, api.ErrShort)
	}
}

// TestNotInOrder: P16.3: keys that are not in order, or come twice: told behind the row of the later one.
func TestNotInOrder(t *testing.T) {
	pairs := [][2]int64{{0, 0}, {8, 0}, {0, -8}, {1, 0}, {1, 8}, {9, 8}, {7, 0}, {7, -1}, {-1, -1}, {-1, -9}, {-1, -2}, {-1, 6}, {7, 1 << 40}, {math.MaxInt64, 0}, {math.MaxInt64, math.MinInt64}, {math.MinInt64 + 7, math.MaxInt64 - 1}, {math.MaxInt64, math.MaxInt64}, {0, math.MinInt64}, {3, 2}, {4, -5}}
	for _, p := range pairs {
		a, b := row(p[0], 5, 0), row(p[1], 6)
		for _, ahead := range []string{row(2) + a, row(3) + a, row(3, math.MinInt64, 0, 0) + a} {
			wrong(t, ahead+b+row(0), api.ErrForm)
			wrong(t, ahead+b+row(1, 9), api.ErrForm)
			wrong(t, ahead+b+row(0)+"\x80", api.ErrForm)
			wrong(t, ahead+b+row(0)+"\x80\x00", api.ErrForm)
			wrong(t, ahead+b+row(2, 9), api.ErrShort)
			wrong(t, ahead+b+row(17), api.ErrForm)
			wrong(t, ahead+b, api.ErrShort)
		}
	}
	for i, key := range inOrder { // each pair of them
		for k, next := range inOrder {
			s := row(2, key, 0, 1, 4, next, 1, 0)
			if i < k {
				taken(t, s, wordsOf(entry{key, 0, []int64{4}}, entry{next, 1, nil}))
			} else {
				wrong(t, s, api.ErrForm)
			}
		}
	}
	wrong(t, row(3, 0, 0, 0, 16, 0, 0, 8, 0, 0), api.ErrForm)
	wrong(t, row(3, 0, 0, 0, 1, 0, 0, 0, 0, 0), api.ErrForm)
	wrong(t, row(3, 0, 0, 0, 1, 0, 0, 8, 0, 0), api.ErrForm)
}

// TestNumbersWrong: P16.3: a number that is none, at each place at which one stands.
func TestNumbersWrong(t *testing.T) {
	l := []int64{3, 8, 1, 2, 64, -65, 1, 0, 0, 7, math.MinInt64, 1, 3}
	for at := range l {
		ahead, behind := row(l[:at]...), row(l[at+1:]...)
		for s, want := range map[string]api.Errno{
			"": api.ErrShort, "\x80": api.ErrShort, "\xff\xff": api.ErrShort, strings.Repeat("\x80", 9): api.ErrShort,
			"\x80\x00": api.ErrForm, "\xff\xff\x00": api.ErrForm, strings.Repeat("\x80", 9) + "\x00": api.ErrForm, strings.Repeat("\xff", 9) + "\x02": api.ErrForm, strings.Repeat("\xff", 10): api.ErrForm, strings.Repeat("\x80", 11): api.ErrForm,
		} {
			wrong(t, ahead+s, want)
			if want == api.ErrForm {
				wrong(t, ahead+s+behind, want)
			}
		}
	}
	taken(t, row(l...), wordsOf(entry{8, 1, []int64{64, -65}}, entry{1, 0, nil}, entry{7, math.MinInt64, []int64{3}}))
}

// TestEnds: P16.3: bytes that end too early, at each place; bytes that are left.
func TestEnds(t *testing.T) {
	d := dice(3)
	tables := [][]entry{nil, few(), full(1), full(6, 7)}
	for range 60 {
		tables = append(tables, d.entries(d.below(8), 16))
	}
	for _, l := range tables {
		s := wordsOf(l...).bytes()
		for size := range len(s) {
			wrong(t, s[:size], api.ErrShort)
		}
		for _, left := range []string{"\x00", "\x80", "\x00\x00\x00", "\x0e\x00\x00", "\x80\x00", "\n", "a", s} {
			wrong(t, s+left, api.ErrForm)
		}
		taken(t, s, wordsOf(l...))
	}
}

// TestFromTheLeft: P16.3: of several errors the leftmost one.
func TestFromTheLeft(t *testing.T) {
	wrong(t, row(-1)+"\x80", api.ErrForm)
	wrong(t, "\x80", api.ErrShort)
	wrong(t, "\x80\x00"+row(1), api.ErrForm)
	wrong(t, row(2, 8, 0, 17), api.ErrForm)
	wrong(t, row(2, 8, 0, 0, 0, 0, 16), api.ErrShort) // not in order, but the row ends ahead of that
	wrong(t, row(2, 8, 0, 0, 0, 0, 0), api.ErrForm)
	wrong(t, row(9, 8, 0, 0, 0, 0, 0), api.ErrForm)
	wrong(t, row(9, 8, 0, 0), api.ErrShort)
	wrong(t, row(1, 8, 0, 0)+"\x80", api.ErrForm) // it is left: it is no number's
	wrong(t, row(0)+"\x80", api.ErrForm)
	wrong(t, row(0, 0), api.ErrForm)
}

// TestByte: P16.3, P16.4: each byte at each place of some tables' bytes; and one more byte there, and one less.
func TestByte(t *testing.T) {
	for _, l := range [][]entry{nil, few(), full(7)[30:], {{1, 2, []int64{3}}, {9, -300, []int64{1, 2}}, {2, 0, nil}}} {
		s := wordsOf(l...).bytes()
		for at := range len(s) {
			byWords(t, s[:at]+s[at+1:])
			for b := range 256 {
				byWords(t, s[:at]+string([]byte{byte(b)})+s[at+1:])
				byWords(t, s[:at]+string([]byte{byte(b)})+s[at:])
			}
		}
	}
}

// TestRows: P16.3, P16.4: all rows of up to seven numbers out of some.
func TestRows(t *testing.T) {
	some := []int64{0, 1, 2, -1, 8, 17}
	met := map[api.Errno]int{}
	var grow func(s string, left int)
	grow = func(s string, left int) {
		met[byWords(t, s)]++
		if left > 0 {
			for _, n := range some {
				grow(s+row(n), left-1)
			}
		}
	}
	grow("", 7)
	if met[api.OK] < 300 || met[api.ErrShort] < 300 || met[api.ErrForm] < 300 || len(met) != 3 {
		t.Error(met)
	}
}

// TestShort: P16.3: all rows of up to two bytes.
func TestShort(t *testing.T) {
	for a := range 256 {
		byWords(t, string([]byte{byte(a)}))
		for b := range 256 {
			byWords(t, string([]byte{byte(a), byte(b)}))
		}
	}
}

// TestWhateverBytes: P16.3, P16.4, R1: whatever bytes; and tables' bytes with some that are changed, cut out, or put twice.
func TestWhateverBytes(t *testing.T) {
	d := dice(5)
	for range 20000 {
		b := make([]byte, d.below(24))
		for i := range b {
			b[i] = byte(d.below(256) >> d.below(8))
		}
		byWords(t, string(b))
	}
	for range 6000 {
		s := wordsOf(d.entries(d.below(12), 4)...).bytes()
		for range 1 + d.below(3) {
			from := d.below(len(s) + 1)
			to := from + d.below(min(len(s)-from, 9)+1)
			switch d.below(3) {
			case 0:
				s = s[:from] + s[to:]
			case 1:
				s = s[:to] + s[from:]
			case 2:
				s = s[:from] + row(d.number()) + s[to:]
			}
		}
		byWords(t, s)
	}
	for _, s := range []string{strings.Repeat("\x00", 1<<16), strings.Repeat("\xff", 1<<16), strings.Repeat("\x02", 1<<16), row(320) + strings.Repeat("\x00\x00\x20", 1<<16)} {
		byWords(t, s)
	}
}

// TestThereAndBack: P16.4: Take of Bytes is the table, and goes on as the table does.
func TestThereAndBack(t *testing.T) {
	d := dice(7)
	for range 800 {
		l := d.entries(d.below(60), 16)
		tb, w := tableOf(t, l...), wordsOf(l...)
		u, e := table.Take(tb.Bytes())
		if e != api.OK {
			t.Fatal(e)
		}
		holds(t, u, w)
		holds(t, tb, w)
		rooms(t, u, w)
		for range 10 {
			key, c := d.number(), d.cell(17)
			want := w.put(key, c)
			put(t, tb, key, c, want)
			put(t, u, key, c, want)
			gone := d.number()
			is := w.drop(gone)
			drop(t, tb, gone, is)
			drop(t, u, gone, is)
		}
		if tb.Bytes() != u.Bytes() {
			t.Errorf("% x, % x", tb.Bytes(), u.Bytes())
		}
	}
}

// TestTakenApart: R3: two tables that were taken of the same bytes have nothing of one another.
func TestTakenApart(t *testing.T) {
	s := wordsOf(few()...).bytes()
	a, _ := table.Take(s)
	b, _ := table.Take(s)
	change(t, a)
	holds(t, b, wordsOf(few()...))
}

// partings are ways to part the groups: by the places among each par, each group alone, each set of groups and what is left, and some whatever.
func partings() [][][]int {
	var l [][][]int
	for par := 1; par <= 4; par++ {
		var parts [][]int
		for place := range par {
			parts = append(parts, group.Owns(place, par))
		}
		l = append(l, parts)
	}
	l = append(l, [][]int{{0}, {1}, {2}, {3}, {4}, {5}, {6}, {7}}, [][]int{all, nil}, [][]int{nil, all})
	d := dice(11)
	for set := range 256 {
		var a [2][]int
		b := make([][]int, 1+d.below(8))
		for of := range 8 {
			a[set>>of&1] = append(a[set>>of&1], of)
			at := d.below(len(b))
			b[at] = append(b[at], of)
		}
		l = append(l, a[:], b)
	}
	return l
}

// TestParted: P16.4: a table is the Join of what its groups have, however they are parted, whichever is joined first.
func TestParted(t *testing.T) {
	d := dice(13)
	tables := [][]entry{nil, few(), full(all...)}
	for range 4 {
		tables = append(tables, d.entries(100, 5))
	}
	for _, l := range tables {
		tb, w := tableOf(t, l...), wordsOf(l...)
		for i, parts := range partings() {
			if i%2 == 1 {
				slices.Reverse(parts)
			}
			u, many := table.New(), 0
			for _, groups := range parts {
				part := tb.Of(groups...)
				many += len(part.Keys())
				if e := u.Join(part); e != api.OK {
					t.Errorf("%d: error %d", parts, e)
				}
			}
			if many != len(l) || u.Bytes() != tb.Bytes() {
				t.Errorf("%d: %d keys of %d, % x", parts, many, len(l), u.Bytes())
			}
		}
		u := tb.Of(1, 3, 5)
		if e := u.Join(tb.Of(7, 6, 4, 2, 0)); e != api.OK {
			t.Error(e)
		}
		holds(t, u, w)
		rooms(t, u, w)
		holds(t, tb, w)
	}
}

// TestWhatever: R1: each call ends, whatever it is handed.
func TestWhatever(t *testing.T) {
	d := dice(17)
	var none *table.Table
	for range 2000 {
		tb := table.New()
		for _, u := range []*table.Table{tb, none} {
			key := d.number()
			u.Put(key, d.cell(20))
			u.Get(d.number())
			u.Of(int(d.number()), int(d.number()))
			u.Join(tb.Of(int(d.number()), d.below(8)))
			u.Join(none)
			u.Drop(key)
			u.Keys()
			u.Bytes()
			u.Copy()
		}
		holds(t, tb, words{})
	}
}
