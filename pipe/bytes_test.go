package pipe_test

import (
	"encoding/hex"
	"runtime"
	"strings"
	"testing"

	"changeling/api"
	"changeling/pipe"
)

// unhex makes bytes of two digits each, to the base 16; blanks may stand between them.
func unhex(t *testing.T, s string) string {
	t.Helper()
	b, err := hex.DecodeString(strings.Join(strings.Fields(s), ""))
	if err != nil {
		t.Fatal(err)
	}
	return string(b)
}

// both asks Bytes of a message that may be, and Read of these.
func both(t *testing.T, m api.Msg, s string) {
	t.Helper()
	handed := copied(m)
	if got, e := pipe.Bytes(m); got != s || e != api.OK {
		t.Errorf("Bytes(%v) = % .200x, error %d, want % .200x", short(m), got, e, s)
	}
	if !sameMsg(m, handed) {
		t.Errorf("Bytes(%v) made that of %v", short(handed), short(m))
	}
	got, e := pipe.Read(s)
	if !sameMsg(got, m) || e != api.OK {
		t.Errorf("Read(% .200x) = %v, error %d, want %v", s, short(got), e, short(m))
	}
	if again, e := pipe.Bytes(got); again != s || e != api.OK {
		t.Errorf("Bytes of Read(% .200x) = % .200x, error %d", s, again, e)
	}
}

// noBytes asks Bytes of a message that may not be, and Read of what would be its bytes.
func noBytes(t *testing.T, m api.Msg) {
	t.Helper()
	handed := copied(m)
	if s, e := pipe.Bytes(m); s != "" || e != api.ErrArg {
		t.Errorf("Bytes(%v) = % .200x, error %d", short(m), s, e)
	}
	if !sameMsg(m, handed) {
		t.Errorf("Bytes(%v) made that of %v", short(handed), short(m))
	}
	wrong(t, bytesOf(m))
}

// wrong asks Read of bytes that are no message's.
func wrong(t *testing.T, s string) {
	t.Helper()
	if m, e := pipe.Read(s); !sameMsg(m, api.Msg{}) || m.L != nil || e != api.ErrForm {
		t.Errorf("Read(% .200x) = %v, error %d", s, short(m), e)
	}
}

// byWords asks Read of whatever bytes, and tells whether they are a message's.
func byWords(t *testing.T, s string) bool {
	t.Helper()
	m, is := readOf(s)
	if is {
		both(t, m, s)
	} else {
		wrong(t, s)
	}
	return is
}

// TestBytes: P19.3: some messages, and their bytes written out by hand.
func TestBytes(t *testing.T) {
	top, low := " fe ff ff ff ff ff ff ff ff 01", " ff ff ff ff ff ff ff ff ff 01"
	for _, c := range []struct {
		m api.Msg
		s string
	}{
		{api.Msg{}, "00 00 00"}, {msg(1), "02 00 00"}, {msg(63), "7e 00 00"}, {msg(64), "80 01 00 00"}, {msg(greatest), top + "00 00"},
		{bar(0, 1), "00 02 00"}, {bar(5, 7), "0a 0e 00"}, {bar(greatest, greatest), top + top + "00"}, {bar(64, 63), "80 01 7e 00"}, {bar(0, 64), "00 80 01 00"},
		{msg(0, rec(0, 0, 0)), "00 00 02 00 00 00"}, {msg(1, rec(1, 2, 3)), "02 00 02 02 04 06"}, {msg(1, rec(-1, -2, -3)), "02 00 02 01 03 05"},
		{msg(3, rec(-1, 7, 0), rec(0, 7, -1)), "06 00 04 01 0e 00 00 0e 01"}, {msg(3, rec(1, 0, 0), rec(64, 5, -65)), "06 00 04 02 00 00 80 01 0a 81 01"},
		{msg(2, rec(least, greatest, least), rec(greatest, least, greatest)), "04 00 04" + low + top + low + top + low + top},
		{msg(9, rec(1, 0, 0), rec(2, 0, 0), rec(3, 0, 0), rec(4, 0, 0)), "12 00 08 02 00 00 04 00 00 06 00 00 08 00 00"},
	} {
		both(t, c.m, unhex(t, c.s))
	}
}

// TestBytesWrong: P19.3: each kind of message that may not be.
func TestBytesWrong(t *testing.T) {
	for _, m := range noMsgs {
		noBytes(t, m)
	}
}

// TestBytesNumbers: P19.3, P19.4: numbers of each length at each place of a message.
func TestBytesNumbers(t *testing.T) {
	for bit := range 64 {
		for near := int64(-2); near <= 2; near++ {
			for _, n := range []int64{1<<bit + near, -1<<bit + near} {
				for _, m := range []api.Msg{
					msg(n), bar(n, 3), bar(3, n), bar(n, n), msg(1, rec(n, 2, 3)), msg(1, rec(1, n, 3)), msg(1, rec(1, 2, n)), msg(n, rec(n, n, n)), {Bar: n, L: []api.Rec{rec(1, n, n)}},
					msg(1, rec(-9, n, -n), rec(n, 5, 5)), msg(1, rec(n, 5, 5), rec(9, n, -n)), msg(1, rec(n, 1, 2), rec(n, 1, 2)), msg(1, rec(n, 1, 2), rec(n-1, 1, 2)), msg(1, rec(n-1, 1, 2), rec(n, 1, 2)),
				} {
					if may(m) {
						both(t, m, bytesOf(m))
					} else {
						noBytes(t, m)
					}
				}
			}
		}
	}
}

// many has messages of all kinds, with numbers of some lengths.
func many() []api.Msg {
	l := []api.Msg{msg(1000, rec(-1000, 70, 1<<40), rec(least>>7, 0, 0)), bar(greatest, 1<<20), msg(greatest, rec(least, least, least), rec(0, 0, 0), rec(greatest, greatest, greatest))}
	l[0].L[0], l[0].L[1] = l[0].L[1], l[0].L[0] // by their places
	for seq := range int64(12) {
		l = append(l, ring(seq), ring(100*seq))
	}
	return append(append(l, some(9)...), msg(3, grown(9, 0)...))
}

// TestBeginnings: P19.3: each beginning of a message's bytes, and these with more behind them, are none's.
func TestBeginnings(t *testing.T) {
	for _, m := range many() {
		s := bytesOf(m)
		both(t, m, s)
		for end := range len(s) {
			wrong(t, s[:end])
		}
		for b := range 256 {
			wrong(t, s+string([]byte{byte(b)}))
			wrong(t, s+string([]byte{0, byte(b)}))
			wrong(t, s+string([]byte{2, byte(b), 4}))
			wrong(t, s+string([]byte{0xff, 1, 2, byte(b)}))
		}
		for _, other := range many() {
			wrong(t, s+bytesOf(other))
			if len(other.L) > 0 {
				wrong(t, s+bytesOf(other)[3:])
			}
		}
	}
}

// TestSpoilt: P19.3: numbers that are no number's bytes, at each place of a message.
func TestSpoilt(t *testing.T) {
	parts := []string{row(7), row(0), row(2), row(1), row(70), row(-1), row(2), row(0), row(5)}
	whole := strings.Join(parts, "")
	if !byWords(t, whole) {
		t.Errorf("% x", whole)
	}
	spoilt := []string{
		"80", "ff", "80 00", "81 00", "ff 00", "80 80 00", "82 80 80 00", "ff ff ff ff ff ff ff ff ff 00", "ff ff ff ff ff ff ff ff ff 02", "ff ff ff ff ff ff ff ff ff 7f",
		"80 80 80 80 80 80 80 80 80 80", "80 80 80 80 80 80 80 80 80 80 01", "ff ff ff ff ff ff ff ff ff ff 01", "ff ff ff ff ff ff ff ff ff 81 00", "80 80 80 80 80 80 80 80 80 00",
	}
	for at := range parts {
		for _, bad := range spoilt {
			s := strings.Join(parts[:at], "") + unhex(t, bad)
			wrong(t, s)
			if len(bad) > 2 { // a number that just goes on would take what stands behind it
				wrong(t, s+strings.Join(parts[at+1:], ""))
			}
		}
		twice := strings.Join(parts[:at], "") + parts[at] + parts[at] + strings.Join(parts[at+1:], "")
		wrong(t, twice)
		wrong(t, strings.Join(parts[:at], "")+strings.Join(parts[at+1:], ""))
	}
	wrong(t, "")
}

// TestCounts: P19.3: each count of records with each count of numbers that stand behind it.
func TestCounts(t *testing.T) {
	counts := []int64{
		least, least + 1, least + 2, -1 << 32, -1<<32 + 1, -3, -2, -1, 0, 1, 2, 3, 4, 5, 6, 7, 8, 9, 1 << 8, 1<<8 + 1, 1 << 16, 1<<16 + 1, 1 << 31, 1 << 32, 1<<32 + 1, 1<<32 + 2, 1 << 60, 1 << 62, 1<<62 + 1, greatest - 1, greatest,
	}
	for behind := range int64(30) {
		third := -6148914691236517205 * behind // thrice that is behind again, by 2^64
		if 3*third != behind {
			t.Error(third)
		}
		for _, count := range append(counts, third, third+1, third-1) {
			l := []int64{5, 0, count}
			for i := range behind {
				l = append(l, i)
			}
			if is := byWords(t, row(l...)); is != (count >= 0 && count < 10 && 3*count == behind) {
				t.Errorf("a count of %d with %d numbers behind it: %v", count, behind, is)
			}
			l[1] = 1
			if is := byWords(t, row(l...)); is != (count == 0 && behind == 0) {
				t.Errorf("a count of %d with %d numbers behind it, of a bar: %v", count, behind, is)
			}
			wrong(t, row(l[:2]...)+row(count)+"\x80")
		}
	}
}

// TestNoRoomTaken: P19.3: a count that is told, whatever it is, takes no more room than what it was given asks.
func TestNoRoomTaken(t *testing.T) {
	for bit := range 63 {
		for _, count := range []int64{1 << bit, 1<<bit - 1, -1 << bit, greatest - 1<<bit, least + 1<<bit} {
			if count >= 0 && count < 2 {
				continue
			}
			s := row(5, 0, count, 1, 2, 3)
			var before, behind runtime.MemStats
			runtime.ReadMemStats(&before)
			wrong(t, s)
			runtime.ReadMemStats(&behind)
			if took := behind.TotalAlloc - before.TotalAlloc; took > 1<<20 {
				t.Errorf("a count of %d took %d bytes", count, took)
			}
		}
	}
}

// TestReadWrong: P19.3: numbers that are whole, of messages that may not be.
func TestReadWrong(t *testing.T) {
	edges := []int64{least, least + 1, -65, -64, -1, 0, 1, 63, 64, greatest - 1, greatest}
	for _, seq := range edges {
		for _, n := range edges {
			if is := byWords(t, row(seq, n, 0)); is != (seq >= 0 && n >= 0) {
				t.Errorf("Seq %d, Bar %d: %v", seq, n, is)
			}
			if is := byWords(t, row(seq, n, 1, 0, 0, 0)); is != (seq >= 0 && n == 0) {
				t.Errorf("Seq %d, Bar %d, a record: %v", seq, n, is)
			}
			if is := byWords(t, row(1, 0, 2, seq, 0, 0, n, 0, 0)); is != (seq < n) {
				t.Errorf("places %d, %d: %v", seq, n, is)
			}
			if is := byWords(t, row(1, 0, 3, -7, 0, 0, seq, 0, 0, n, 0, 0)); is != (-7 < seq && seq < n) {
				t.Errorf("places -7, %d, %d: %v", seq, n, is)
			}
		}
	}
}

// TestFewNumbers: P19.3: all rows of up to seven numbers out of five.
func TestFewNumbers(t *testing.T) {
	met := map[int]int{}
	for length := range 8 {
		rows := 1
		for range length {
			rows *= 5
		}
		for at := range rows {
			var l []int64
			for left := at; len(l) < length; left /= 5 {
				l = append(l, int64(left%5)-1)
			}
			if byWords(t, row(l...)) {
				met[length]++
			}
		}
	}
	if len(met) != 2 || met[3] != 4*4 || met[6] != 4*125 {
		t.Error(met)
	}
}

// TestFewBytes: P19.3: all bytes of up to two, and rows of up to six of some.
func TestFewBytes(t *testing.T) {
	for a := range 256 {
		wrong(t, string([]byte{byte(a)}))
		for b := range 256 {
			wrong(t, string([]byte{byte(a), byte(b)}))
			byWords(t, string([]byte{byte(a), byte(b), 0}))
			byWords(t, string([]byte{0, byte(a), byte(b)}))
			byWords(t, string([]byte{2, 0, 2, byte(a), byte(b), 6}))
		}
	}
	from := "\x00\x01\x02\x04\x7f\x80\xff"
	for length := 3; length <= 6; length++ {
		rows := 1
		for range length {
			rows *= len(from)
		}
		for at := range rows {
			var b []byte
			for left := at; len(b) < length; left /= len(from) {
				b = append(b, from[left%len(from)])
			}
			byWords(t, string(b))
		}
	}
}

// TestEachByte: P19.3: each byte at each place of a message's bytes, put for what is there, or ahead of it; each byte left out.
func TestEachByte(t *testing.T) {
	for _, m := range many() {
		s := bytesOf(m)
		for at := range len(s) {
			byWords(t, s[:at]+s[at+1:])
			for b := range 256 {
				one := string([]byte{byte(b)})
				byWords(t, s[:at]+one+s[at+1:])
				byWords(t, s[:at]+one+s[at:])
			}
		}
	}
}

// TestReadApart: R3, R5: what Read told is written to; nothing else changes.
func TestReadApart(t *testing.T) {
	for _, m := range many() {
		s := bytesOf(m)
		a, _ := pipe.Read(s)
		b, _ := pipe.Read(s)
		scribble(a.L)
		if !sameMsg(b, m) {
			t.Errorf("another answer became %v", b)
		}
		both(t, m, s)
	}
}

// TestLongBytes: P19.3, P19.4: messages of many records, and such as lack one, or have one more.
func TestLongBytes(t *testing.T) {
	for _, length := range []int{63, 64, 65, 8191, 8192, 1 << 16, 1<<17 + 1} {
		m := msg(greatest, grown(length, 0)...)
		s := bytesOf(m)
		both(t, m, s)
		wrong(t, s[:len(s)-1])
		wrong(t, s+"\x00")
		wrong(t, s+row(greatest, 0, 0))
		head := len(row(greatest, 0, int64(length)))
		for _, count := range []int64{0, 1, int64(length) - 1, int64(length) + 1, int64(length) + 1<<32, 3 * int64(length), -int64(length)} {
			wrong(t, row(greatest, 0, count)+s[head:])
		}
		m.L[length-1].Pos = int64(length) - 1
		noBytes(t, m)
	}
	wrong(t, strings.Repeat("\x00", 1<<20))
	wrong(t, strings.Repeat("\x80", 1<<20))
	wrong(t, strings.Repeat("\xff", 1<<20))
	wrong(t, row(0, 0, 1<<20)+strings.Repeat("\x00", 3<<20)) // as many as told, but the places stand still
}

// TestWhateverMessages: P19.3, P19.4: whatever messages.
func TestWhateverMessages(t *testing.T) {
	d := dice(31)
	met := map[bool]int{}
	for range 100000 {
		m := d.msg()
		met[may(m)]++
		if may(m) {
			both(t, m, bytesOf(m))
		} else {
			noBytes(t, m)
		}
	}
	if met[true] < 50000 || met[false] < 3000 {
		t.Error(met)
	}
}

// TestWhateverBytes: P19.3, P19.4: whatever bytes, also such as are nearly a message's.
func TestWhateverBytes(t *testing.T) {
	d := dice(19)
	met := map[bool]int{}
	for range 300000 {
		var b []byte
		if d.below(2) == 0 {
			b = []byte(bytesOf(d.msg()))
			for range d.below(3) {
				at := d.below(len(b))
				switch d.below(4) {
				case 0:
					b[at] = byte(d.below(256))
				case 1:
					b = append(b[:at], b[at+1:]...)
				case 2:
					b = append(b, byte(d.below(256)))
				case 3:
					b = b[:at]
				}
				if len(b) == 0 {
					break
				}
			}
		} else {
			for range d.below(20) {
				b = append(b, byte(d.below(256)>>d.below(9)))
			}
		}
		met[byWords(t, string(b))]++
	}
	if met[true] < 10000 || met[false] < 10000 {
		t.Error(met)
	}
}
