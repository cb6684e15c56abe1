package bytes_test

import (
	"encoding/hex"
	"math"
	"math/big"
	"slices"
	"strings"
	"testing"

	"changeling/api"
	"changeling/bytes"
)

// unhex makes bytes of two digits each, to the base 16; blanks may stand between them.
func unhex(t *testing.T, s string) string {
	t.Helper()
	b, err := hex.DecodeString(strings.ReplaceAll(s, " ", ""))
	if err != nil {
		t.Fatal(err)
	}
	return string(b)
}

// told: some numbers, and their bytes as chapter 2 has them.
var told = []struct {
	n int64
	b string
}{
	{0, "00"}, {-1, "01"}, {1, "02"}, {-2, "03"}, {2, "04"}, {-3, "05"},
	{62, "7c"}, {-63, "7d"}, {63, "7e"}, {-64, "7f"},
	{64, "80 01"}, {-65, "81 01"}, {65, "82 01"}, {127, "fe 01"}, {-128, "ff 01"}, {128, "80 02"}, {150, "ac 02"}, {-1000, "cf 0f"},
	{1<<13 - 1, "fe 7f"}, {-1 << 13, "ff 7f"}, {1 << 13, "80 80 01"}, {-1<<13 - 1, "81 80 01"},
	{1<<20 - 1, "fe ff 7f"}, {-1 << 20, "ff ff 7f"}, {1 << 20, "80 80 80 01"}, {-1<<20 - 1, "81 80 80 01"},
	{1<<27 - 1, "fe ff ff 7f"}, {-1 << 27, "ff ff ff 7f"}, {1 << 27, "80 80 80 80 01"}, {-1<<27 - 1, "81 80 80 80 01"},
	{math.MaxInt32, "fe ff ff ff 0f"}, {math.MinInt32, "ff ff ff ff 0f"}, {math.MaxUint32, "fe ff ff ff 1f"},
	{1<<34 - 1, "fe ff ff ff 7f"}, {-1 << 34, "ff ff ff ff 7f"}, {1 << 34, "80 80 80 80 80 01"}, {-1<<34 - 1, "81 80 80 80 80 01"},
	{1<<41 - 1, "fe ff ff ff ff 7f"}, {-1 << 41, "ff ff ff ff ff 7f"}, {1 << 41, "80 80 80 80 80 80 01"}, {-1<<41 - 1, "81 80 80 80 80 80 01"},
	{1<<48 - 1, "fe ff ff ff ff ff 7f"}, {-1 << 48, "ff ff ff ff ff ff 7f"}, {1 << 48, "80 80 80 80 80 80 80 01"}, {-1<<48 - 1, "81 80 80 80 80 80 80 01"},
	{1<<55 - 1, "fe ff ff ff ff ff ff 7f"}, {-1 << 55, "ff ff ff ff ff ff ff 7f"}, {1 << 55, "80 80 80 80 80 80 80 80 01"}, {-1<<55 - 1, "81 80 80 80 80 80 80 80 01"},
	{1<<62 - 1, "fe ff ff ff ff ff ff ff 7f"}, {-1 << 62, "ff ff ff ff ff ff ff ff 7f"}, {1 << 62, "80 80 80 80 80 80 80 80 80 01"}, {-1<<62 - 1, "81 80 80 80 80 80 80 80 80 01"},
	{math.MaxInt64 - 1, "fc ff ff ff ff ff ff ff ff 01"}, {math.MaxInt64, "fe ff ff ff ff ff ff ff ff 01"},
	{math.MinInt64 + 1, "fd ff ff ff ff ff ff ff ff 01"}, {math.MinInt64, "ff ff ff ff ff ff ff ff ff 01"},
}

// spoilt: bytes that no number's are a beginning of, and the error.
var spoilt = []struct {
	b string
	e api.Errno
}{
	{"", api.ErrShort}, {"80", api.ErrShort}, {"81", api.ErrShort}, {"ff", api.ErrShort}, {"80 80", api.ErrShort}, {"fe ff", api.ErrShort},
	{"80 80 80 80 80 80 80 80 80", api.ErrShort}, {"ff ff ff ff ff ff ff ff ff", api.ErrShort},
	{"80 00", api.ErrForm}, {"81 00", api.ErrForm}, {"ff 00", api.ErrForm}, {"80 80 00", api.ErrForm}, {"ff ff 00 01", api.ErrForm}, {"80 81 82 00", api.ErrForm},
	{"ff ff ff ff ff ff ff ff 00", api.ErrForm},
	{"80 80 80 80 80 80 80 80 80 00", api.ErrForm}, {"ff ff ff ff ff ff ff ff ff 00", api.ErrForm}, {"ff ff ff ff ff ff ff ff ff 00 01", api.ErrForm},
	{"80 80 80 80 80 80 80 80 80 02", api.ErrForm}, {"ff ff ff ff ff ff ff ff ff 02", api.ErrForm}, {"80 80 80 80 80 80 80 80 80 03 00", api.ErrForm},
	{"ff ff ff ff ff ff ff ff ff 7f", api.ErrForm},
	{"80 80 80 80 80 80 80 80 80 80", api.ErrForm}, {"80 80 80 80 80 80 80 80 80 81", api.ErrForm}, {"ff ff ff ff ff ff ff ff ff ff", api.ErrForm},
	{"80 80 80 80 80 80 80 80 80 80 01", api.ErrForm}, {"80 80 80 80 80 80 80 80 80 80 00", api.ErrForm}, {"81 80 80 80 80 80 80 80 80 81 01", api.ErrForm},
	{"ff ff ff ff ff ff ff ff ff ff ff ff ff ff ff ff ff ff ff ff 01", api.ErrForm},
}

// byWords: a number's bytes, reckoned by the words of chapter 2 in numbers without a bound.
func byWords(n int64) string {
	form := new(big.Int).Mul(big.NewInt(2), big.NewInt(n))
	if n < 0 {
		form.SetInt64(-1).Sub(form, big.NewInt(n)).Mul(form, big.NewInt(2)).Add(form, big.NewInt(1))
	}
	s := ""
	for {
		low := new(big.Int)
		form.DivMod(form, big.NewInt(128), low)
		if form.Sign() == 0 {
			return s + string([]byte{byte(low.Int64())})
		}
		s += string([]byte{byte(low.Int64()) + 128})
	}
}

// readByWords: what Take is to answer, by its promise.
func readByWords(s string) (int64, int, api.Errno) {
	last := 0
	for last < len(s) && last < 10 && s[last] > 127 {
		last++
	}
	switch {
	case last == 10 || last == 9 && len(s) > 9 && s[9] > 1:
		return 0, 0, api.ErrForm
	case last == len(s):
		return 0, 0, api.ErrShort
	case last > 0 && s[last] == 0:
		return 0, 0, api.ErrForm
	}
	form := new(big.Int)
	for i := last; i >= 0; i-- {
		form.Mul(form, big.NewInt(128)).Add(form, big.NewInt(int64(s[i]%128)))
	}
	half, odd := new(big.Int).DivMod(form, big.NewInt(2), new(big.Int))
	if odd.Sign() != 0 {
		half.Sub(big.NewInt(-1), half)
	}
	return half.Int64(), last + 1, api.OK
}

// edgeNumbers: all numbers near those at which a bit more is wanted.
func edgeNumbers() []int64 {
	var l []int64
	for bit := range 64 {
		for d := int64(-3); d <= 3; d++ {
			l = append(l, int64(1)<<bit+d, -(int64(1)<<bit)+d)
		}
	}
	for n := int64(-20000); n <= 20000; n++ {
		l = append(l, n)
	}
	x := uint64(1)
	for range 20000 { // and some of all lengths, from one start
		x = x*6364136223846793005 + 1442695040888963407
		l = append(l, int64(x)>>(x%64))
	}
	return l
}

// smallTexts calls f with all texts of these bytes that have at most so many, alone and behind bytes that go on.
func smallTexts(f func(s string)) {
	parts := []byte{0x00, 0x01, 0x02, 0x03, 0x7f, 0x80, 0x81, 0xff}
	var grow func(s string, left int)
	grow = func(s string, left int) {
		f(s)
		for _, p := range parts {
			if left > 0 {
				grow(s+string([]byte{p}), left-1)
			}
		}
	}
	grow("", 5)
	for _, ahead := range []string{"\x80", "\xff", "\xaa"} {
		for many := range 13 {
			grow(strings.Repeat(ahead, many), 3)
		}
	}
}

// TestPut: P2.1.
func TestPut(t *testing.T) {
	all, want := []int64{}, ""
	for _, c := range told {
		b := unhex(t, c.b)
		if s := bytes.Put(c.n); s != b {
			t.Errorf("Put(%d) = % x, want % x", c.n, s, b)
		}
		if s := bytes.Put(c.n, 0, c.n); s != b+"\x00"+b {
			t.Errorf("Put(%d, 0, %d) = % x", c.n, c.n, s)
		}
		all, want = append(all, c.n), want+b
	}
	before := slices.Clone(all)
	if s := bytes.Put(all...); s != want {
		t.Errorf("Put of all = % x, want % x", s, want)
	}
	if !slices.Equal(all, before) {
		t.Error("Put changed what it was handed in")
	}
	if s := bytes.Put(); s != "" {
		t.Errorf("Put() = % x", s)
	}
	if s := bytes.Put([]int64{}...); s != "" {
		t.Errorf("Put of an empty list = % x", s)
	}
	if s := bytes.Put(-1, 64); s != "\x01\x80\x01" {
		t.Errorf("Put(-1, 64) = % x", s)
	}
	if s := bytes.Put(make([]int64, 100000)...); s != strings.Repeat("\x00", 100000) {
		t.Error("Put of many zeros has", len(s), "bytes")
	}
}

// TestPutByWords: P2.1: the bytes of other numbers, and no more than ten.
func TestPutByWords(t *testing.T) {
	for _, n := range edgeNumbers() {
		s, want := bytes.Put(n), byWords(n)
		if s != want || len(s) > 10 {
			t.Fatalf("Put(%d) = % x, want % x", n, s, want)
		}
	}
}

// TestTake: P2.1: whatever stands behind a number's bytes.
func TestTake(t *testing.T) {
	for _, c := range told {
		b := unhex(t, c.b)
		for _, behind := range []string{"", "\x00", "\x01", "\x7f", "\x80", "\xff", "\x80\x00", strings.Repeat("\xff", 20)} {
			if n, size, e := bytes.Take(b + behind); n != c.n || size != len(b) || e != api.OK {
				t.Errorf("Take(% x) = %d, %d, %d, want %d, %d", b+behind, n, size, e, c.n, len(b))
			}
		}
		for cut := range b {
			if n, size, e := bytes.Take(b[:cut]); n != 0 || size != 0 || e != api.ErrShort {
				t.Errorf("Take(% x) = %d, %d, %d, want ErrShort", b[:cut], n, size, e)
			}
		}
	}
}

// TestTakeErrors: P2.1: nothing is told beside an error.
func TestTakeErrors(t *testing.T) {
	for _, c := range spoilt {
		if n, size, e := bytes.Take(unhex(t, c.b)); n != 0 || size != 0 || e != c.e {
			t.Errorf("Take(%s) = %d, %d, %d, want %d", c.b, n, size, e, c.e)
		}
	}
	for tenth := range 256 {
		s := strings.Repeat("\x80", 9) + string([]byte{byte(tenth)})
		n, size, e := bytes.Take(s)
		if tenth == 1 && (n != 1<<62 || size != 10 || e != api.OK) || tenth != 1 && (n != 0 || size != 0 || e != api.ErrForm) {
			t.Errorf("Take(% x) = %d, %d, %d", s, n, size, e)
		}
	}
	for _, many := range []int{10, 11, 1 << 20} {
		for _, b := range []string{"\x80", "\xff"} {
			if n, size, e := bytes.Take(strings.Repeat(b, many)); n != 0 || size != 0 || e != api.ErrForm {
				t.Errorf("Take of %d times % x = %d, %d, %d", many, b, n, size, e)
			}
		}
	}
}

// TestTakeByWords: P2.1, and of P2.4: what Take tells has just these bytes.
func TestTakeByWords(t *testing.T) {
	smallTexts(func(s string) {
		n, size, e := bytes.Take(s)
		wantN, wantSize, wantE := readByWords(s)
		if n != wantN || size != wantSize || e != wantE {
			t.Fatalf("Take(% x) = %d, %d, %d, want %d, %d, %d", s, n, size, e, wantN, wantSize, wantE)
		}
		if e == api.OK && bytes.Put(n) != s[:size] {
			t.Fatalf("Put(%d) = % x, it was read from % x", n, bytes.Put(n), s[:size])
		}
	})
}

// TestPutText: P2.2.
func TestPutText(t *testing.T) {
	for _, c := range []struct {
		ahead, text string
	}{
		{"\x00", ""}, {"\x02", "a"}, {"\x04", "ab"}, {"\x02", "\x00"}, {"\x08", "\xff\x80\x00\n"}, {"\x0a", "\u00f6\u20ac"},
		{"\x7e", strings.Repeat("x", 63)}, {"\x80\x01", strings.Repeat("x", 64)},
		{"\xfe\x7f", strings.Repeat("x", 8191)}, {"\x80\x80\x01", strings.Repeat("x", 8192)},
		{"\xfe\xff\x07", strings.Repeat("\x80", 65535)}, {"\x80\x80\x08", strings.Repeat("\xff", 65536)},
	} {
		if s, e := bytes.PutText(c.text); s != c.ahead+c.text || e != api.OK {
			t.Errorf("PutText(%.20q), %d bytes: %.30q, %d", c.text, len(c.text), s, e)
		}
	}
	for _, many := range []int{65537, 65538, 1 << 20} {
		if s, e := bytes.PutText(strings.Repeat("x", many)); s != "" || e != api.ErrLong {
			t.Errorf("PutText of %d bytes: %.20q, %d", many, s, e)
		}
	}
}

// TestTakeText: P2.2: whatever stands behind a text's bytes, and each beginning of them.
func TestTakeText(t *testing.T) {
	if text, size, e := bytes.TakeText("\x04abc"); text != "ab" || size != 3 || e != api.OK {
		t.Errorf("%q, %d, %d", text, size, e)
	}
	for _, many := range []int{0, 1, 2, 63, 64, 65, 8191, 8192, 65535, 65536} {
		want := strings.Repeat("\x80a\x00\xff", many/4+1)[:many]
		s, e := bytes.PutText(want)
		if e != api.OK {
			t.Fatal(many, e)
		}
		for _, behind := range []string{"", "\x00", "b", "\xff", s} {
			if text, size, e := bytes.TakeText(s + behind); text != want || size != len(s) || e != api.OK {
				t.Errorf("TakeText of %d bytes: %.20q, %d, %d", many, text, size, e)
			}
		}
		for cut := 0; cut < len(s); cut += 1 + cut/50 {
			if text, size, e := bytes.TakeText(s[:cut]); text != "" || size != 0 || e != api.ErrShort {
				t.Errorf("TakeText of the first %d of %d: %.20q, %d, %d", cut, len(s), text, size, e)
			}
		}
		if text, size, e := bytes.TakeText(s[:len(s)-1]); text != "" || size != 0 || e != api.ErrShort {
			t.Errorf("TakeText of all but one of %d: %.20q, %d, %d", len(s), text, size, e)
		}
	}
}

// TestTakeTextErrors: P2.2: the errors in their order.
func TestTakeTextErrors(t *testing.T) {
	check := func(s string, want api.Errno) {
		t.Helper()
		if text, size, e := bytes.TakeText(s); text != "" || size != 0 || e != want {
			t.Errorf("TakeText(%.20q), %d bytes: %.20q, %d, %d, want %d", s, len(s), text, size, e, want)
		}
	}
	for _, c := range spoilt {
		check(unhex(t, c.b), c.e)
		if c.e == api.ErrForm {
			check(unhex(t, c.b)+strings.Repeat("a", 70000), api.ErrForm)
		}
	}
	enough := strings.Repeat("a", 70000)
	for _, n := range []int64{-1, -2, -64, -65, -65536, -65537, math.MinInt32, math.MinInt64 + 1, math.MinInt64} {
		check(bytes.Put(n), api.ErrForm)
		check(bytes.Put(n)+enough, api.ErrForm)
	}
	for _, n := range []int64{65537, 65538, 69999, 70000, 1 << 20, math.MaxInt32, 1 << 32, 1<<32 + 1, math.MaxInt64 - 1, math.MaxInt64} {
		check(bytes.Put(n), api.ErrLong)
		check(bytes.Put(n)+enough, api.ErrLong)
	}
	for _, n := range []int64{1, 2, 63, 64, 8192, 65535, 65536} {
		check(bytes.Put(n), api.ErrShort)
		check(bytes.Put(n)+enough[:n-1], api.ErrShort)
	}
}

// TestNumbers: P2.3.
func TestNumbers(t *testing.T) {
	all, s := []int64{}, ""
	check := func(s string, want []int64) {
		t.Helper()
		if l, e := bytes.Numbers(s); e != api.OK || !slices.Equal(l, want) {
			t.Errorf("Numbers(% .40x) = %d, %d, want %d", s, l, e, want)
		}
	}
	check("", nil)
	for _, c := range told {
		b := unhex(t, c.b)
		check(b, []int64{c.n})
		check(b+"\x00"+b, []int64{c.n, 0, c.n})
		all, s = append(all, c.n), s+b
		check(s, all)
	}
	check("\x00\x00\x00", []int64{0, 0, 0})
	check("\x01\x80\x01", []int64{-1, 64})
	for _, c := range spoilt {
		for _, ahead := range []string{"", "\x00", "\x01\x80\x01", s} {
			b := ahead + unhex(t, c.b)
			if c.b == "" {
				continue // no bytes are no numbers
			}
			if l, e := bytes.Numbers(b); len(l) != 0 || e != c.e {
				t.Errorf("Numbers(% x) = %d, %d, want %d", b, l, e, c.e)
			}
		}
	}
	for s, want := range map[string]api.Errno{
		"\x80\x00\x80": api.ErrForm, "\x02\x81\x00\xff": api.ErrForm, "\x00" + strings.Repeat("\xff", 11): api.ErrForm,
		"\x02" + strings.Repeat("\xff", 9): api.ErrShort, "\x00\x00\x80": api.ErrShort,
	} {
		if l, e := bytes.Numbers(s); len(l) != 0 || e != want {
			t.Errorf("Numbers(% x) = %d, %d, want %d", s, l, e, want)
		}
	}
}

// TestNumbersFollow: P2.4: there, and back.
func TestNumbersFollow(t *testing.T) {
	all := edgeNumbers()
	if l, e := bytes.Numbers(bytes.Put(all...)); e != api.OK || !slices.Equal(l, all) {
		t.Error("Numbers of Put:", e, len(l))
	}
	many := 0
	smallTexts(func(s string) {
		l, e := bytes.Numbers(s)
		rest, want := s, []int64{}
		for len(rest) > 0 {
			n, size, e2 := readByWords(rest)
			if e2 != api.OK {
				if e != e2 || len(l) != 0 {
					t.Fatalf("Numbers(% x) = %d, %d, want %d", s, l, e, e2)
				}
				return
			}
			want, rest = append(want, n), rest[size:]
		}
		many++
		if e != api.OK || !slices.Equal(l, want) || bytes.Put(l...) != s {
			t.Fatalf("Numbers(% x) = %d, %d, want %d", s, l, e, want)
		}
	})
	if many < 1000 {
		t.Error(many, "texts of numbers")
	}
}

// TestNoBeginning: P2.4: no number's bytes begin another one's.
func TestNoBeginning(t *testing.T) {
	l := edgeNumbers()
	slices.Sort(l)
	l = slices.Compact(l)
	rows := []string{}
	for _, n := range l {
		rows = append(rows, bytes.Put(n))
	}
	slices.Sort(rows) // one that begins another one stands right ahead of one that it begins
	for i := range rows[1:] {
		if strings.HasPrefix(rows[i+1], rows[i]) {
			t.Fatalf("% x begins % x", rows[i], rows[i+1])
		}
	}
	if len(rows) < 40000 {
		t.Error(len(rows), "numbers")
	}
}

// TestTextsFollow: P2.2: what TakeText tells has just these bytes.
func TestTextsFollow(t *testing.T) {
	smallTexts(func(s string) {
		text, size, e := bytes.TakeText(s)
		n, begin, want := readByWords(s)
		switch {
		case want != api.OK:
		case n < 0:
			want = api.ErrForm
		case n > api.MaxBytes:
			want = api.ErrLong
		case n > int64(len(s)-begin):
			want = api.ErrShort
		default:
			if back, _ := bytes.PutText(text); text != s[begin:begin+int(n)] || back != s[:size] {
				t.Errorf("TakeText(% x) = %q, %d", s, text, size)
			}
		}
		if e != want || e != api.OK && (text != "" || size != 0) {
			t.Errorf("TakeText(% x) = %q, %d, %d, want %d", s, text, size, e, want)
		}
	})
}
