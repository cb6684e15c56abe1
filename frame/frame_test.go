package frame_test

import (
	"encoding/hex"
	"hash/adler32"
	"slices"
	"strings"
	"testing"

	"changeling/api"
	"changeling/bytes"
	"changeling/frame"
)

// unhex makes bytes of two digits each, to the base 16; blanks may stand between them.
func unhex(t *testing.T, s string) string {
	t.Helper()
	b, err := hex.DecodeString(strings.ReplaceAll(s, " ", ""))
	if err != nil {
		t.Fatal(err)
	}
	return string(b)
}

// one is a frame.
type one struct {
	kind    uint8
	payload string
}

var zeros, great = strings.Repeat("\x00", api.MaxBytes+1), strings.Repeat("\xff", api.MaxBytes+1)

// told: some frames, what stands ahead of their payload and behind it, reckoned by hand.
var told = []struct {
	one
	ahead, behind string
}{
	{one{1, ""}, "01 00", "02 00 04 00"},
	{one{2, ""}, "02 00", "03 00 06 00"},
	{one{127, ""}, "7f 00", "80 00 00 01"},
	{one{128, ""}, "80 00", "81 00 02 01"},
	{one{254, ""}, "fe 00", "ff 00 fe 01"},
	{one{255, ""}, "ff 00", "00 01 00 02"},
	{one{1, "\x00"}, "01 02", "04 00 0a 00"},
	{one{2, "a"}, "02 02", "66 00 6e 00"},
	{one{255, "\xff"}, "ff 02", "01 02 03 04"},
	{one{128, "\n"}, "80 02", "8d 00 91 01"},
	{one{7, "abc"}, "07 06", "34 01 8a 02"},
	// 1, 128 and 63 times 128: 8194; 1, 128, 129 and 64 times 131: 8647.
	{one{1, zeros[:63]}, "01 7e", "80 00 02 20"},
	{one{1, zeros[:64]}, "01 80 01", "83 00 c7 21"},
	// 65536 times 266, beyond whole 65521s, is 15 times 266; with 656 ahead 4646.
	{one{1, zeros[:65536]}, "01 80 80 08", "0a 01 26 12"},
}

// putByWords: a frame's bytes by the words of chapters 4, 2 and 3.
func putByWords(kind uint8, payload string) string {
	b := []byte{kind}
	form := 2 * len(payload)
	for form > 127 {
		b = append(b, byte(128+form%128))
		form /= 128
	}
	b = append(append(b, byte(form)), payload...)
	n := adler32.Checksum(b)
	return string(append(b, byte(n%256), byte(n/256%256), byte(n/65536%256), byte(n/65536/256)))
}

// takeByWords: what Take is to answer, by what would have to stand there.
func takeByWords(s string) (one, int, api.Errno) {
	if s == "" {
		return one{}, 0, api.ErrShort
	}
	if s[0] == 0 {
		return one{}, 0, api.ErrForm
	}
	payload, many, e := bytes.TakeText(s[1:])
	if e != api.OK {
		return one{}, 0, e
	}
	want := putByWords(s[0], payload)
	switch {
	case len(s) < 1+many+4:
		return one{}, 0, api.ErrShort
	case s[:1+many+4] != want:
		return one{}, 0, api.ErrSum
	}
	return one{s[0], payload}, len(want), api.OK
}

// allByWords: the frames that s begins with, and how many bytes they have.
func allByWords(s string) (l []one, many int) {
	for {
		f, size, e := takeByWords(s[many:])
		if e != api.OK {
			return l, many
		}
		l = append(l, f)
		many += size
	}
}

// mixed: so many bytes that are not alike, from one start.
func mixed(many int, x uint32) string {
	b := make([]byte, many)
	for i := range b {
		x = x*1664525 + 1013904223
		b[i] = byte(x >> 24)
	}
	return string(b)
}

// payloads: of all the lengths at which something begins, of bytes alike and not.
func payloads() []string {
	l := []string{"a", "ab", "abc", "\n", "r\u00e4ume", "\x80", "\xff\xfe"}
	for _, many := range []int{0, 1, 2, 3, 62, 63, 64, 65, 127, 128, 129, 255, 256, 257, 8190, 8191, 8192, 8193, 65520, 65521, 65522, 65535, 65536} {
		l = append(l, zeros[:many], great[:many], mixed(many, 1))
	}
	return l
}

// kinds: at which something begins.
var kinds = []uint8{1, 2, 7, 63, 64, 127, 128, 129, 254, 255}

// put is Put of what can be put.
func put(t *testing.T, kind uint8, payload string) string {
	t.Helper()
	s, e := frame.Put(kind, payload)
	if e != api.OK {
		t.Fatalf("Put(%d, %.20q) of %d bytes: error %d", kind, payload, len(payload), e)
	}
	return s
}

// checkTake holds Take against the words of the chapter.
func checkTake(t *testing.T, s string) {
	t.Helper()
	kind, payload, size, e := frame.Take(s)
	f, many, want := takeByWords(s)
	if (one{kind, payload}) != f || size != many || e != want {
		t.Errorf("Take(%.40q), %d bytes: %d, %.20q, %d, error %d, want %d, %.20q, %d, error %d", s, len(s), kind, payload, size, e, f.kind, f.payload, many, want)
	}
}

// checkNone asks for one error of Take.
func checkNone(t *testing.T, s string, want api.Errno) {
	t.Helper()
	if kind, payload, size, e := frame.Take(s); kind != 0 || payload != "" || size != 0 || e != want {
		t.Errorf("Take(%.40q), %d bytes: %d, %.20q, %d, error %d, want error %d", s, len(s), kind, payload, size, e, want)
	}
}

// TestPut: P4.1: frames whose bytes were reckoned by hand.
func TestPut(t *testing.T) {
	for _, c := range told {
		want := unhex(t, c.ahead) + c.payload + unhex(t, c.behind)
		if s, e := frame.Put(c.kind, c.payload); s != want || e != api.OK {
			t.Errorf("Put(%d, %.20q): %.40x, error %d, want %.40x", c.kind, c.payload, s, e, want)
		}
		if s := putByWords(c.kind, c.payload); s != want {
			t.Fatalf("by words %.40x, want %.40x", s, want)
		}
	}
	if n := len(put(t, 1, "")); n != 6 {
		t.Error("Put(1, no payload) has", n)
	}
	if n := len(put(t, 7, "abc")); n != 9 {
		t.Error("Put(7, abc) has", n)
	}
}

// TestPutByWords: P4.1: all kinds, and payloads of all lengths.
func TestPutByWords(t *testing.T) {
	for _, payload := range payloads() {
		for _, kind := range kinds {
			if s, want := put(t, kind, payload), putByWords(kind, payload); s != want {
				t.Errorf("Put(%d, %.20q), %d bytes: %.40x, want %.40x", kind, payload, len(payload), s, want)
			}
		}
	}
	for kind := 1; kind < 256; kind++ {
		for _, payload := range []string{"", "a", great[:257]} {
			if s, want := put(t, uint8(kind), payload), putByWords(uint8(kind), payload); s != want {
				t.Errorf("Put(%d, %.20q): %.40x, want %.40x", kind, payload, s, want)
			}
		}
	}
	for many := range 300 {
		if s, want := put(t, 9, mixed(many, 2)), putByWords(9, mixed(many, 2)); s != want {
			t.Errorf("Put(9, ..) of %d bytes: %.40x, want %.40x", many, s, want)
		}
	}
}

// TestPutWrong: P4.1: a kind of 0 is told ahead of a payload that is too long.
func TestPutWrong(t *testing.T) {
	for _, payload := range []string{"", "a", "\x00", zeros[:65535], zeros[:65536], zeros, great, great + great} {
		if s, e := frame.Put(0, payload); s != "" || e != api.ErrArg {
			t.Errorf("Put(0, %.20q) of %d bytes: %.40x, error %d", payload, len(payload), s, e)
		}
	}
	for kind := 1; kind < 256; kind++ {
		for _, payload := range []string{zeros, great, great + "a", great + great} {
			if s, e := frame.Put(uint8(kind), payload); s != "" || e != api.ErrLong {
				t.Errorf("Put(%d, %.20q) of %d bytes: %.40x, error %d", kind, payload, len(payload), s, e)
			}
		}
	}
}

// behinds: what may stand behind a frame.
var behinds = []string{"", "\x00", "\x01", "\x80", "\xff", "\x02\x00\x04\x00", "\x01\x00\x02\x00\x04\x00", "abc", strings.Repeat("\xff", 300)}

// TestTake: P4.1, P4.3: Take of Put is the frame, whatever stands behind it.
func TestTake(t *testing.T) {
	for _, c := range told {
		s := unhex(t, c.ahead) + c.payload + unhex(t, c.behind)
		for _, behind := range behinds {
			if kind, payload, size, e := frame.Take(s + behind); kind != c.kind || payload != c.payload || size != len(s) || e != api.OK {
				t.Errorf("Take of %d, %.20q, %.20q behind it: %d, %.20q, %d, error %d", c.kind, c.payload, behind, kind, payload, size, e)
			}
		}
	}
	for _, payload := range payloads() {
		for _, kind := range kinds {
			s := put(t, kind, payload)
			for _, behind := range behinds {
				if k, p, size, e := frame.Take(s + behind); k != kind || p != payload || size != len(s) || e != api.OK {
					t.Errorf("Take of Put(%d, %.20q), %.20q behind it: %d, %.20q, %d, error %d", kind, payload, behind, k, p, size, e)
				}
			}
		}
	}
	for kind := 1; kind < 256; kind++ {
		s := put(t, uint8(kind), "k")
		if k, p, size, e := frame.Take(s); int(k) != kind || p != "k" || size != 7 || e != api.OK {
			t.Errorf("Take of Put(%d, k): %d, %q, %d, error %d", kind, k, p, size, e)
		}
	}
}

// none: bytes that begin with no frame, and the error.
var none = []struct {
	s string
	e api.Errno
}{
	{"", api.ErrShort},
	{"00", api.ErrForm}, {"00 00", api.ErrForm}, {"00 80", api.ErrForm}, {"00 00 01 00 02 00", api.ErrForm}, {"00 00 01 00 01 00", api.ErrForm}, {"00 01 00 02 00 04 00", api.ErrForm},
	{"00 02 61 64 00 67 00", api.ErrForm}, {"00 82 80 08", api.ErrForm}, {"00 ff ff ff ff ff", api.ErrForm},
	// The payload's number is not there, or ends early.
	{"01", api.ErrShort}, {"ff", api.ErrShort}, {"01 80", api.ErrShort}, {"ff 80 80", api.ErrShort}, {"01 ff ff ff ff ff ff ff ff ff", api.ErrShort},
	// It has no form of a number.
	{"01 80 00", api.ErrForm}, {"01 80 00 02 00 04 00", api.ErrForm}, {"01 82 00 61 00 00 00 00", api.ErrForm}, {"01 ff ff ff ff ff ff ff ff ff 02", api.ErrForm},
	{"01 80 80 80 80 80 80 80 80 80 80", api.ErrForm}, {"01 80 80 80 80 80 80 80 80 80 80 01", api.ErrForm},
	// It is below 0.
	{"01 01", api.ErrForm}, {"01 01 03 00 05 00", api.ErrForm}, {"ff 03", api.ErrForm}, {"01 ff ff ff ff ff ff ff ff ff 01", api.ErrForm},
	// It is above MaxBytes.
	{"01 82 80 08", api.ErrLong}, {"01 82 80 08 00 00 00 00", api.ErrLong}, {"ff fe ff ff ff ff ff ff ff ff 01", api.ErrLong},
	// There are not so many bytes.
	{"01 02", api.ErrShort}, {"07 06 61 62", api.ErrShort}, {"01 80 80 08", api.ErrShort}, {"01 80 80 08 00 00 00 00", api.ErrShort}, {"01 0c 61 62 63 64 65", api.ErrShort},
	// The sum is not there, or not all of it.
	{"01 00", api.ErrShort}, {"01 00 02", api.ErrShort}, {"01 00 02 00", api.ErrShort}, {"01 00 02 00 04", api.ErrShort},
	{"07 06 61 62 63", api.ErrShort}, {"07 06 61 62 63 34", api.ErrShort}, {"07 06 61 62 63 34 01", api.ErrShort}, {"07 06 61 62 63 34 01 8a", api.ErrShort},
	{"01 00 ff", api.ErrShort}, {"01 00 ff ff ff", api.ErrShort}, {"07 06 61 62 63 00 00 00", api.ErrShort},
	// It is another one: by one byte; turned round; its halves, or their bytes, exchanged.
	{"01 00 03 00 04 00", api.ErrSum}, {"01 00 02 01 04 00", api.ErrSum}, {"01 00 02 00 05 00", api.ErrSum}, {"01 00 02 00 04 01", api.ErrSum},
	{"01 00 00 04 00 02", api.ErrSum}, {"01 00 04 00 02 00", api.ErrSum}, {"01 00 00 02 00 04", api.ErrSum}, {"01 00 00 00 00 00", api.ErrSum}, {"01 00 00 02 00 04 00", api.ErrSum},
	{"07 06 61 62 63 02 8a 01 34", api.ErrSum}, {"07 06 61 62 63 8a 02 34 01", api.ErrSum}, {"07 06 61 62 63 01 34 02 8a", api.ErrSum}, {"ff 02 ff 04 03 02 01", api.ErrSum},
	// It is that of the payload alone, of the text alone, of the kind and the payload, of a kind of 0; of no byte.
	{"07 06 61 62 63 27 01 4d 02", api.ErrSum}, {"07 06 61 62 63 2d 01 65 02", api.ErrSum}, {"07 06 61 62 63 2e 01 69 02", api.ErrSum}, {"07 06 61 62 63 2d 01 67 02", api.ErrSum}, {"07 06 61 62 63 01 00 00 00", api.ErrSum},
	// One frame's sum stands behind another kind, another length, another payload.
	{"02 00 02 00 04 00", api.ErrSum}, {"08 06 61 62 63 34 01 8a 02", api.ErrSum}, {"07 06 61 63 62 34 01 8a 02", api.ErrSum}, {"07 04 61 62 63 34 01 8a 02", api.ErrSum}, {"07 08 61 62 63 34 01 8a 02", api.ErrShort},
}

// TestTakeNone: P4.1: the first error.
func TestTakeNone(t *testing.T) {
	for _, c := range none {
		checkNone(t, unhex(t, c.s), c.e)
	}
	for _, head := range []string{"\x01\x80\x80\x08", "\xff\x80\x80\x08"} { // 65536 bytes are asked for
		checkNone(t, head+zeros[:65535], api.ErrShort)
		checkNone(t, head+zeros[:65536], api.ErrShort)
		checkNone(t, head+zeros[:65536]+"\x00\x00\x00", api.ErrShort)
		checkNone(t, head+zeros[:65536]+"\x00\x00\x00\x00", api.ErrSum)
	}
	long := "\x01\x82\x80\x08" + zeros // 65537 bytes, and a sum that would fit
	n := adler32.Checksum([]byte(long))
	checkNone(t, long+string([]byte{byte(n), byte(n >> 8), byte(n >> 16), byte(n >> 24)}), api.ErrLong)
	checkNone(t, "\x00"+great, api.ErrForm)
}

// TestTakeSum: P4.1: a sum in each byte of which each other one stands, or whose bytes stand in another order.
func TestTakeSum(t *testing.T) {
	for _, f := range []one{{1, ""}, {7, "abc"}, {255, "\xff"}, {128, "\n"}, {3, mixed(300, 3)}} {
		b := []byte(put(t, f.kind, f.payload))
		sum := b[len(b)-4:]
		right := [4]byte(sum)
		for i := range sum {
			for c := range 256 {
				sum[i] = byte(c)
				if byte(c) != right[i] {
					checkNone(t, string(b), api.ErrSum)
					checkNone(t, string(b)+"\x00", api.ErrSum)
				}
			}
			sum[i] = right[i]
		}
		for order := range 256 {
			for i := range sum {
				sum[i] = right[order>>(2*i)%4]
			}
			if [4]byte(sum) != right {
				checkNone(t, string(b), api.ErrSum)
			}
		}
	}
}

// rows: rows of bytes, some of which begin with frames.
func rows(t *testing.T) []string {
	a, b, c, d := put(t, 1, ""), put(t, 7, "abc"), put(t, 255, great[:256]), put(t, 2, a2(t))
	l := []string{a, b, c, d, a + a, a + b, b + a, c + d, a + b + c + d, d + c + b + a, strings.Repeat(a, 1000), strings.Repeat(b, 1000)}
	for _, x := range none { // behind frames, alone, and between them
		bad := unhex(t, x.s)
		l = append(l, bad, a+bad, a+b+bad, c+b+a+bad, bad+a, a+bad+b, a+b+bad+c+d)
	}
	long := put(t, 9, great[:65536])
	l = append(l, long, long+long, a+long+b, long+long[:len(long)-1], a+long[:65536], long+"\x00", "\x00"+long)
	for i := range len(b) + 1 {
		l = append(l, a+b[:i], a+b[:i]+a, b[i:]+a, a+b[i:])
	}
	return l
}

// a2: a payload that is frames itself.
func a2(t *testing.T) string { return put(t, 1, "") + put(t, 7, "abc") }

// all: what All goes over.
func all(s string) (l []one) {
	for kind, payload := range frame.All(s) {
		l = append(l, one{kind, payload})
	}
	return l
}

// TestAll: P4.2: the frames of rows that were put together.
func TestAll(t *testing.T) {
	a, b, c := one{1, ""}, one{7, "abc"}, one{255, great[:256]}
	for _, x := range []struct {
		l      []one
		behind string
	}{
		{nil, ""}, {nil, "\x00"}, {nil, "\x01"}, {nil, "\x01\x00"}, {nil, "\x01\x00\x02\x00\x04"}, {nil, "\x01\x00\x02\x00\x04\x01"}, {nil, great},
		{[]one{a}, ""}, {[]one{b}, ""}, {[]one{c}, ""}, {[]one{a}, "\x00"}, {[]one{a}, "\x01"}, {[]one{b}, "\x07\x06abc"}, {[]one{c}, "\x01\x00\x03\x00\x04\x00"},
		{[]one{a, a}, ""}, {[]one{a, b, c}, ""}, {[]one{c, b, a, a, b, c}, ""}, {[]one{c, b, a}, "\x00" + "\x01\x00\x02\x00\x04\x00"}, {[]one{b, b}, "\x07\x06abc\x34\x01\x8a\x03" + "\x01\x00\x02\x00\x04\x00"},
		{[]one{{2, a2(t)}}, ""}, {[]one{{1, zeros[:65536]}, a, {1, great[:65536]}, b}, "\x80"},
	} {
		s := ""
		for _, f := range x.l {
			s += put(t, f.kind, f.payload)
		}
		if l := all(s + x.behind); !slices.Equal(l, x.l) {
			t.Errorf("All of %d frames, %.20q behind them: %d", len(x.l), x.behind, len(l))
		}
		if n := frame.Whole(s + x.behind); n != len(s) {
			t.Errorf("Whole of %d frames, %.20q behind them: %d, want %d", len(x.l), x.behind, n, len(s))
		}
	}
}

// TestAllByWords: P4.2: rows of all sorts; Whole, too.
func TestAllByWords(t *testing.T) {
	for _, s := range rows(t) {
		want, many := allByWords(s)
		if l := all(s); !slices.Equal(l, want) {
			t.Errorf("All(%.40q), %d bytes: %d, want %d", s, len(s), len(l), len(want))
		}
		if n := frame.Whole(s); n != many {
			t.Errorf("Whole(%.40q), %d bytes: %d, want %d", s, len(s), n, many)
		}
	}
	for _, payload := range payloads() {
		for _, kind := range kinds {
			s := put(t, kind, payload)
			if n := frame.Whole(s + "\x00"); n != len(s) {
				t.Errorf("Whole of Put(%d, %.20q), %d bytes: %d", kind, payload, len(s), n)
			}
		}
	}
}

// TestAllLeft: P4.2: it may be left behind each frame; it asks no more then.
func TestAllLeft(t *testing.T) {
	for _, s := range rows(t) {
		want, _ := allByWords(s)
		for _, many := range []int{1, 2, 3, len(want) - 1, len(want)} {
			var l []one
			asked := false
			frame.All(s)(func(kind uint8, payload string) bool {
				asked = asked || len(l) == many
				l = append(l, one{kind, payload})
				return len(l) != many
			})
			if left := many >= 1 && many <= len(want); left && !slices.Equal(l, want[:many]) || !left && !slices.Equal(l, want) || left && asked {
				t.Errorf("All(%.40q), left behind %d of %d: %d", s, many, len(want), len(l))
			}
		}
	}
	for kind, payload := range frame.All(put(t, 7, "abc") + put(t, 8, "")) {
		if kind != 7 || payload != "abc" {
			t.Errorf("the first one: %d, %q", kind, payload)
		}
		break
	}
}

// TestAllTwice: P4.2: gone over again, also within itself and behind being left, it begins anew.
func TestAllTwice(t *testing.T) {
	for _, s := range rows(t)[:12] {
		want, _ := allByWords(s)
		frames := frame.All(s)
		for range frames {
			break
		}
		for range 2 {
			i := 0
			for kind, payload := range frames {
				if (one{kind, payload}) != want[i] {
					t.Fatalf("All(%.40q), frame %d: %d, %.20q", s, i, kind, payload)
				}
				if i++; i > 3 {
					continue
				}
				many := 0
				for range frames {
					many++
				}
				if many != len(want) {
					t.Fatalf("All(%.40q) within itself: %d, want %d", s, many, len(want))
				}
			}
			if i != len(want) {
				t.Fatalf("All(%.40q): %d, want %d", s, i, len(want))
			}
		}
	}
}

// TestWhole: P4.2: it counts what stands ahead of what is no frame.
func TestWhole(t *testing.T) {
	a, b := put(t, 1, ""), put(t, 7, "abc")
	for _, c := range []struct {
		s    string
		many int
	}{
		{"", 0}, {"\x00", 0}, {a[:5], 0}, {"\x00" + a, 0}, {a[1:], 0},
		{a, 6}, {b, 9}, {a + b, 15}, {b + a, 15}, {a + b + a, 21}, {a + "\x00" + b, 6}, {a + b[:8], 6}, {b + a[:5] + a, 9}, {a + b + "abc", 15},
		{strings.Repeat(b, 500), 4500}, {strings.Repeat(b, 500) + a[:1], 4500},
	} {
		if n := frame.Whole(c.s); n != c.many {
			t.Errorf("Whole(%.40q), %d bytes: %d, want %d", c.s, len(c.s), n, c.many)
		}
	}
	for _, many := range []int{0, 1, 63, 64, 8191, 8192, 65535, 65536} { // where a payload's number has one byte more
		s := put(t, 200, zeros[:many])
		if n := frame.Whole(s + s + a); n != 2*len(s)+6 {
			t.Errorf("Whole of two frames of %d bytes, and one: %d", many, n)
		}
	}
}

// TestThereAndBack: P4.3: Put of what Take tells is what it took.
func TestThereAndBack(t *testing.T) {
	for _, s := range rows(t) {
		for len(s) > 0 {
			kind, payload, size, e := frame.Take(s)
			if e != api.OK {
				break
			}
			if b := put(t, kind, payload); b != s[:size] || size < api.FrameBytes {
				t.Errorf("Put of Take(%.40q) is %.40q", s, b)
			}
			s = s[size:]
		}
	}
}

// TestTorn: P4.3: no beginning of a frame's bytes but all of them is a frame; it is told as too short.
func TestTorn(t *testing.T) {
	for _, payload := range payloads() {
		for _, kind := range []uint8{1, 7, 128, 255} {
			s := put(t, kind, payload)
			step := 1 + len(s)/100 // of a long one some, and all that end within its head or its sum
			for i := 0; i < len(s); i++ {
				if i%step != 0 && i > 5 && i < len(s)-5 {
					continue
				}
				checkNone(t, s[:i], api.ErrShort)
				if n := frame.Whole(s[:i]); n != 0 {
					t.Errorf("Whole of %d bytes of %d: %d", i, len(s), n)
				}
			}
		}
	}
	two := put(t, 7, "abc") + put(t, 8, "de")
	for i := range len(two) {
		if n := frame.Whole(two[:i]); n != i/9*9 {
			t.Errorf("Whole of %d bytes of two frames: %d", i, n)
		}
	}
}

// TestSpoilt: P4.3: what is one byte otherwise is none, or a shorter one.
func TestSpoilt(t *testing.T) {
	frames := []one{{1, ""}, {255, ""}, {7, "abc"}, {1, "\x00"}, {255, "\xff"}, {2, a2(t)}, {3, zeros[:64]}, {4, great[:63]}, {5, mixed(64, 4)}, {6, mixed(130, 5)}}
	for _, f := range frames {
		b := []byte(put(t, f.kind, f.payload))
		for i := range b {
			checkSpoilt(t, b, i, len(b)-len(f.payload)-4)
		}
	}
	for _, many := range []int{8191, 8192, 65536} {
		b := []byte(put(t, 9, mixed(many, 6)))
		for _, i := range []int{0, 1, 2, 3, 4, len(b) / 2, len(b) - 5, len(b) - 4, len(b) - 3, len(b) - 2, len(b) - 1} {
			checkSpoilt(t, b, i, len(b)-many-4)
		}
	}
}

// checkSpoilt puts each other byte at i of a frame whose payload begins at head, and the right one again.
func checkSpoilt(t *testing.T, b []byte, i, head int) {
	t.Helper()
	right := b[i]
	for c := range 256 {
		b[i] = byte(c)
		s := string(b)
		checkTake(t, s)
		switch _, _, size, e := frame.Take(s); {
		case byte(c) == right:
		case size >= len(s):
			t.Errorf("%d bytes, at %d %d in place of %d: a frame of %d bytes", len(b), i, c, right, size)
		case i == 0 && c == 0:
			checkNone(t, s, api.ErrForm)
		case (i == 0 || i >= head) && e != api.ErrSum: // it is as long as it was
			t.Errorf("%d bytes, at %d %d in place of %d: error %d", len(b), i, c, right, e)
		}
	}
	b[i] = right
}

// TestShorter: P4.3: one that is one byte otherwise, and a shorter one.
func TestShorter(t *testing.T) {
	for _, many := range []int{0, 1, 2, 30, 57} {
		short := put(t, 7, mixed(many, 7))
		payload := short[2:] + "zz" // what the shorter one has behind its number, and more
		s := put(t, 7, payload)
		spoilt := short[:2] + s[2:]
		if kind, p, size, e := frame.Take(spoilt); kind != 7 || p != mixed(many, 7) || size != len(short) || size >= len(s) || e != api.OK {
			t.Errorf("a shorter one of %d bytes: %d, %.20q, %d, error %d", len(short), kind, p, size, e)
		}
		if n := frame.Whole(spoilt); n != len(short) {
			t.Errorf("Whole of a shorter one: %d, want %d", n, len(short))
		}
	}
}

// TestWrong: R1, R2 of the document: whatever bytes; each call ends, and tells what the chapter's words tell.
func TestWrong(t *testing.T) {
	few := []byte{0, 1, 2, 3, 4, 0x80, 0xff}
	for many := range 7 {
		b := make([]byte, many)
		eachRow(b, few, 0, func() {
			checkTake(t, string(b))
			if l, n := allByWords(string(b)); frame.Whole(string(b)) != n || len(all(string(b))) != len(l) {
				t.Errorf("All, Whole(%x)", b)
			}
		})
	}
	for i := range 3000 {
		s := mixed(i%40, uint32(i))
		checkTake(t, s)
		checkTake(t, "\x01"+s)
		checkTake(t, "\x01\x02"+s)
		if _, n := allByWords(s); frame.Whole(s) != n {
			t.Errorf("Whole(%x)", s)
		}
	}
	for _, s := range []string{strings.Repeat("\xff", 1<<20), strings.Repeat("\x00", 1<<20), strings.Repeat("\x01", 1<<20), mixed(1<<20, 8)} {
		checkTake(t, s)
		if n := frame.Whole(s); n != 0 {
			t.Errorf("Whole(%.20q), %d bytes: %d", s, len(s), n)
		}
	}
}

// eachRow fills b from i on with each row of those few bytes.
func eachRow(b, few []byte, i int, f func()) {
	if i == len(b) {
		f()
		return
	}
	for _, c := range few {
		b[i] = c
		eachRow(b, few, i+1, f)
	}
}
