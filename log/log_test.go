package log_test

import (
	"math"
	"slices"
	"strings"
	"testing"

	"changeling/api"
	"changeling/disk"
	"changeling/frame"
	"changeling/log"
)

const minInt, maxInt = math.MinInt, math.MaxInt

// numbers: that are no file's and no record's, and at which something begins.
var numbers = []int{minInt, minInt + 1, -1 << 32, -16, -2, -1, 16, 17, 255, 256, 1 << 16, 1 << 22, 1 << 32, 1<<32 + 1, maxInt - 1, maxInt}

// record is a kind and a text.
type record struct {
	kind uint8
	text string
}

// made is New of a room that there is.
func made(t *testing.T, room int) *disk.Disk {
	t.Helper()
	d, e := disk.New(room)
	if d == nil || e != api.OK {
		t.Fatalf("New(%d): error %d", room, e)
	}
	return d
}

// holding is a disk whose file has bytes that are sure.
func holding(t *testing.T, file int, s string) *disk.Disk {
	t.Helper()
	d := made(t, api.MaxDisk)
	okay(t, d.Append(file, s), d.Sync())
	return d
}

// opened is Open of a file that is to be opened.
func opened(t *testing.T, d *disk.Disk, file int) *log.Log {
	t.Helper()
	l, e := log.Open(d, file)
	if l == nil || e != api.OK {
		t.Fatalf("Open(%d): a log: %v, error %d", file, l != nil, e)
	}
	return l
}

// shut asks for an Open's error.
func shut(t *testing.T, d *disk.Disk, file int, want api.Errno) {
	t.Helper()
	if l, e := log.Open(d, file); l != nil || e != want {
		t.Errorf("Open(%d): a log: %v, error %d, want none and %d", file, l != nil, e, want)
	}
}

// answers holds errors against those that are wanted, in turn.
func answers(t *testing.T, what string, got []api.Errno, want ...api.Errno) {
	t.Helper()
	if !slices.Equal(got, want) {
		t.Errorf("%s: errors %d, want %d", what, got, want)
	}
}

// okay asks that all calls were done.
func okay(t *testing.T, l ...api.Errno) {
	t.Helper()
	for i, e := range l {
		if e != api.OK {
			t.Errorf("call %d: error %d", i, e)
		}
	}
}

// at asks for one answer of At.
func at(t *testing.T, l *log.Log, i int, want record, wantE api.Errno) {
	t.Helper()
	if kind, text, e := l.At(i); kind != want.kind || text != want.text || e != wantE {
		t.Errorf("At(%d): %d, %.40q of %d bytes, error %d, want %d, %.40q of %d bytes, error %d", i, kind, text, len(text), e, want.kind, want.text, len(want.text), wantE)
	}
}

// check asks for all that a log tells.
func check(t *testing.T, l *log.Log, sure int, want ...record) {
	t.Helper()
	if l.Len() != len(want) || l.Sure() != sure {
		t.Errorf("len: %d, sure: %d, want %d, %d", l.Len(), l.Sure(), len(want), sure)
	}
	for i, r := range want {
		at(t, l, i, r, api.OK)
	}
	for _, i := range []int{minInt, -1, len(want), len(want) + 1, maxInt} {
		at(t, l, i, record{}, api.ErrRange)
	}
}

// has asks for a file's bytes, how many changes are loose, and that the disk is on.
func has(t *testing.T, d *disk.Disk, file int, want string, loose int) {
	t.Helper()
	s, e := d.Read(file)
	if s != want || e != api.OK || d.Loose() != loose {
		t.Errorf("file %d: %.60q of %d bytes, error %d, loose: %d; want %.60q of %d bytes, loose: %d", file, s, len(s), e, d.Loose(), want, len(want), loose)
	}
}

// gone asks that a disk is off, with so many loose changes.
func gone(t *testing.T, d *disk.Disk, loose int) {
	t.Helper()
	if d.On() || d.Loose() != loose {
		t.Errorf("on: %v, loose: %d; want off, %d", d.On(), d.Loose(), loose)
	}
}

// Frames, reckoned by hand: the kind, twice the text's length, the text, the sum's four bytes.
const (
	one    = "\x01\x02a\x65\x00\x6b\x00" // Put(1, a)
	two    = "\x02\x00\x03\x00\x06\x00"  // Put(2, no text)
	three  = "\x03\x02b\x68\x00\x72\x00" // Put(3, b)
	shared = "\x01\x02a\x65\x00\x6b"     // one, less its last byte
)

// TestExamples: the chapter's.
func TestExamples(t *testing.T) {
	d := made(t, 100)
	l := opened(t, d, 0)
	check(t, l, 0)
	answers(t, "first row", []api.Errno{l.Put(1, "a"), l.Put(2, ""), l.Sync(), l.Put(3, "b")}, api.OK, api.OK, api.OK, api.OK)
	check(t, l, 2, record{1, "a"}, record{2, ""}, record{3, "b"})
	has(t, d, 0, one+two+three, 1)
	d.Crash(0, 0)
	l = opened(t, d, 0)
	check(t, l, 2, record{1, "a"}, record{2, ""})
	okay(t, l.Cut(1))
	check(t, l, 1, record{1, "a"})
	has(t, d, 0, one, 0)
}

// TestNil: R4, P6.1 to P6.4: no disk, and every call of no log.
func TestNil(t *testing.T) {
	var l *log.Log
	long := strings.Repeat("x", api.MaxBytes+1)
	for _, n := range append([]int{0, 1, 15}, numbers...) {
		shut(t, nil, n, api.ErrNil)
		answers(t, "nil", []api.Errno{l.Put(uint8(n), ""), l.Put(0, long), l.Sync(), l.Cut(n)}, api.ErrNil, api.ErrNil, api.ErrNil, api.ErrNil)
		at(t, l, n, record{}, api.ErrNil)
		if l.Len() != 0 || l.Sure() != 0 {
			t.Errorf("nil: len: %d, sure: %d", l.Len(), l.Sure())
		}
	}
}

// TestOpenFiles: P6.1: files that there are, and that there are not; a disk that is off.
func TestOpenFiles(t *testing.T) {
	d := made(t, 1000)
	for file := range api.MaxFiles {
		check(t, opened(t, d, file), 0)
	}
	for file := range api.MaxFiles {
		l := opened(t, d, file)
		okay(t, l.Put(uint8(file+1), "x"), l.Sync())
	}
	for file := range api.MaxFiles {
		check(t, opened(t, d, file), 1, record{uint8(file + 1), "x"})
	}
	for _, n := range numbers {
		shut(t, d, n, api.ErrArg)
	}
	okay(t, d.Power(0))
	answers(t, "the power", []api.Errno{d.Sync()}, api.ErrOff)
	for _, n := range append([]int{0, 1, 15}, numbers...) {
		shut(t, d, n, api.ErrOff)
	}
}

// torn: what a file has that begins with so many records, and how many bytes these have; what is behind them is no frame.
var torn = []struct {
	s           string
	many, whole int
}{
	{"\x00", 0, 0}, {"\x01", 0, 0}, {"\xff", 0, 0}, {"\n", 0, 0}, {"no frame at all", 0, 0}, {strings.Repeat("\x00", 1000), 0, 0}, {strings.Repeat("\xff", 1000), 0, 0},
	{shared, 0, 0}, {"\x00" + one, 0, 0}, {"x" + one + two, 0, 0}, {one[1:], 0, 0},
	{"\x01\x02b\x65\x00\x6b\x00" + two, 0, 0}, {"\x01\x02a\x65\x00\x6b\x01", 0, 0}, {"\x00\x02a\x64\x00\xca\x00", 0, 0},
	{"\x01\x82\x00a\x65\x00\x6b\x00", 0, 0},         // a length in two bytes, that has one
	{"\x01\x01a", 0, 0}, {"\x01\x82\x80\x08", 0, 0}, // a length below 0; one above what a text may have
	{one + "\x00", 1, 7}, {one + two[:1], 1, 7}, {one + two[:5], 1, 7}, {one + "\x00" + two, 1, 7}, {one + one[:6], 1, 7},
	{one + two + shared, 2, 13}, {one + two + shared + three, 2, 13}, {one + two + "\x03\x02c\x68\x00\x72\x00", 2, 13}, {one + two + "\xff\xff\xff\xff", 2, 13},
	{one + two + three + " ", 3, 20}, {one + two + three + strings.Repeat("\x03", 70000), 3, 20},
}

// all: the records of one, two and three.
var all = []record{{1, "a"}, {2, ""}, {3, "b"}}

// TestOpenWhole: P6.1: whole frames alone: no operation is done, and what is loose stays so.
func TestOpenWhole(t *testing.T) {
	for many, s := range []string{"", one, one + two, one + two + three} {
		d := made(t, 100)
		okay(t, d.Append(4, s), d.Append(5, "loose"), d.Power(0))
		check(t, opened(t, d, 4), many, all[:many]...)
		has(t, d, 4, s, 2)
		check(t, opened(t, d, 4), many, all[:many]...)
		has(t, d, 5, "loose", 2)
		answers(t, "the power", []api.Errno{d.Sync()}, api.ErrOff)
		gone(t, d, 2)
	}
}

// TestOpenTorn: P6.1: what is left behind whole frames is cut off, and that is sure.
func TestOpenTorn(t *testing.T) {
	for _, c := range torn {
		d := holding(t, 4, c.s)
		okay(t, d.Append(5, "loose"), d.Power(2))
		l := opened(t, d, 4)
		check(t, l, c.many, all[:c.many]...)
		has(t, d, 4, c.s[:c.whole], 0)
		okay(t, l.Sync())
		answers(t, "the third operation", []api.Errno{d.Append(4, "")}, api.ErrOff)
		d.Crash(0, 0)
		has(t, d, 4, c.s[:c.whole], 0)
		has(t, d, 5, "loose", 0)
		okay(t, d.Power(0)) // a second time there is nothing to do
		l = opened(t, d, 4)
		check(t, l, c.many, all[:c.many]...)
		d.Crash(0, 0)
		okay(t, l.Put(9, "!"), l.Sync())
		check(t, opened(t, d, 4), c.many+1, append(slices.Clone(all[:c.many]), record{9, "!"})...)
	}
}

// TestOpenRefused: P6.1: the power goes at the Cut, or at the Sync behind it.
func TestOpenRefused(t *testing.T) {
	for _, c := range torn {
		for power := range 2 {
			for kept := range 3 {
				d := holding(t, 4, c.s)
				okay(t, d.Append(5, "loose"), d.Power(power))
				shut(t, d, 4, api.ErrOff)
				gone(t, d, 1+power) // the Cut is done, or it is not
				shut(t, d, 4, api.ErrOff)
				d.Crash(kept, 0)
				want := c.s
				if power == 1 && kept == 2 {
					want = c.s[:c.whole]
				}
				has(t, d, 4, want, 0)
				check(t, opened(t, d, 4), c.many, all[:c.many]...)
				has(t, d, 4, c.s[:c.whole], 0)
			}
		}
	}
}

// TestPut: P6.2: kinds and texts that a frame takes, and those that none takes.
func TestPut(t *testing.T) {
	d := made(t, api.MaxDisk)
	l := opened(t, d, 3)
	most := strings.Repeat("\xff\x00", api.MaxBytes/2)
	want := []record{}
	for _, r := range []record{{1, ""}, {255, ""}, {1, most}, {255, most}, {7, most[1:]}, {128, "\n"}, {1, "\x01\x02a\x65\x00\x6b\x00"}, {1, ""}} {
		okay(t, l.Put(r.kind, r.text))
		want = append(want, r)
		check(t, l, 0, want...)
		if d.Loose() != len(want) {
			t.Errorf("%d changes are loose behind %d records", d.Loose(), len(want))
		}
		answers(t, "no frame", []api.Errno{l.Put(0, ""), l.Put(0, "a"), l.Put(0, most), l.Put(0, most+"x"), l.Put(1, most+"x"), l.Put(255, most+most)},
			api.ErrArg, api.ErrArg, api.ErrArg, api.ErrArg, api.ErrLong, api.ErrLong)
		check(t, l, 0, want...)
	}
	s, _ := d.Read(3)
	for i, r := range want {
		kind, text, size, e := frame.Take(s)
		if kind != r.kind || text != r.text || e != api.OK {
			t.Fatalf("record %d: kind %d, %d bytes, error %d", i, kind, len(text), e)
		}
		s = s[size:]
	}
	if s != "" {
		t.Errorf("%d bytes behind all records", len(s))
	}
	okay(t, l.Sync())
	check(t, l, len(want), want...)
	check(t, opened(t, d, 3), len(want), want...)
}

// TestPutRoom: P6.2: just so much room, and one byte less.
func TestPutRoom(t *testing.T) {
	d := made(t, 19)
	l := opened(t, d, 0)
	okay(t, l.Put(1, "a"), l.Put(2, ""), l.Sync())
	answers(t, "with 6 bytes left", []api.Errno{l.Put(3, "b"), l.Put(3, strings.Repeat("b", 65536)), l.Put(3, strings.Repeat("b", 65537)), l.Put(0, "b")}, api.ErrFull, api.ErrFull, api.ErrLong, api.ErrArg)
	check(t, l, 2, all[:2]...)
	has(t, d, 0, one+two, 0)
	okay(t, l.Sync(), l.Put(2, ""))
	check(t, l, 2, record{1, "a"}, record{2, ""}, record{2, ""})
	answers(t, "with no byte left", []api.Errno{l.Put(2, "")}, api.ErrFull)
	check(t, l, 2, record{1, "a"}, record{2, ""}, record{2, ""})
	has(t, d, 0, one+two+two, 1)
	d = made(t, 20)
	l = opened(t, d, 0)
	okay(t, l.Put(1, "a"), l.Put(2, ""), l.Put(3, "b"), l.Sync())
	check(t, l, 3, all...)
	d = made(t, 20)
	okay(t, d.Append(9, "x"))
	l = opened(t, d, 0)
	okay(t, l.Put(1, "a"), l.Put(2, ""))
	answers(t, "where another file has the room", []api.Errno{l.Put(3, "b")}, api.ErrFull)
	check(t, l, 0, all[:2]...)
}

// TestPutOff: P6.2, R2: the power goes at it; the frame's errors go ahead, and the disk's are in its order.
func TestPutOff(t *testing.T) {
	d := made(t, 13)
	l := opened(t, d, 0)
	okay(t, l.Put(1, "a"), l.Sync(), d.Power(0))
	answers(t, "no room goes ahead of no power", []api.Errno{l.Put(3, "b"), l.Put(0, ""), l.Put(1, strings.Repeat("x", 65537))}, api.ErrFull, api.ErrArg, api.ErrLong)
	has(t, d, 0, one, 0)
	answers(t, "the power", []api.Errno{l.Put(2, "")}, api.ErrOff)
	gone(t, d, 0)
	answers(t, "off", []api.Errno{l.Put(2, ""), l.Put(3, "b"), l.Put(0, strings.Repeat("x", 65537)), l.Put(1, strings.Repeat("x", 65537)), l.Sync()},
		api.ErrOff, api.ErrOff, api.ErrArg, api.ErrLong, api.OK)
	check(t, l, 1, all[:1]...)
	d.Crash(0, 0)
	check(t, opened(t, d, 0), 1, all[:1]...)
}

// TestSync: P6.2: one operation, and none where all is sure.
func TestSync(t *testing.T) {
	d := made(t, 100)
	l := opened(t, d, 0)
	okay(t, d.Append(1, "loose"), l.Sync())
	has(t, d, 0, "", 1)
	okay(t, d.Power(3), l.Sync(), l.Put(1, "a"), l.Put(2, ""))
	check(t, l, 0, all[:2]...)
	okay(t, l.Sync())
	check(t, l, 2, all[:2]...)
	has(t, d, 1, "loose", 0)
	okay(t, l.Sync(), l.Sync())
	answers(t, "the fourth operation", []api.Errno{l.Put(3, "b"), l.Sync()}, api.ErrOff, api.OK)
	check(t, l, 2, all[:2]...)
	gone(t, d, 0)
}

// TestSyncOff: P6.2: behind a Sync that is refused the same are sure as ahead of it.
func TestSyncOff(t *testing.T) {
	for sure := range 3 {
		for kept := range 3 {
			d := made(t, 100)
			l := opened(t, d, 0)
			for _, r := range all[:sure] {
				okay(t, l.Put(r.kind, r.text))
			}
			okay(t, l.Sync())
			for _, r := range all[sure:] {
				okay(t, l.Put(r.kind, r.text))
			}
			okay(t, d.Power(0))
			answers(t, "Sync", []api.Errno{l.Sync(), l.Sync()}, api.ErrOff, api.ErrOff)
			check(t, l, sure, all...)
			gone(t, d, 3-sure)
			d.Crash(kept, 0)
			many := min(3, sure+kept)
			check(t, opened(t, d, 0), many, all[:many]...)
		}
	}
}

// TestCut: P6.3: to as many as there are, to fewer, and to what is no number of records.
func TestCut(t *testing.T) {
	begins := []int{0, 7, 13, 20}
	for sure := range 4 {
		for many := -1; many <= 4; many++ {
			d := made(t, 100)
			l := opened(t, d, 0)
			for _, r := range all[:sure] {
				okay(t, l.Put(r.kind, r.text))
			}
			okay(t, l.Sync())
			for _, r := range all[sure:] {
				okay(t, l.Put(r.kind, r.text))
			}
			okay(t, d.Power(2))
			switch e := l.Cut(many); {
			case many < 0 || many > 3:
				answers(t, "Cut", []api.Errno{e}, api.ErrRange)
				check(t, l, sure, all...)
				has(t, d, 0, one+two+three, 3-sure)
			case many == 3:
				okay(t, e)
				check(t, l, sure, all...)
				has(t, d, 0, one+two+three, 3-sure)
			default:
				okay(t, e)
				check(t, l, many, all[:many]...)
				has(t, d, 0, (one + two + three)[:begins[many]], 0)
				answers(t, "one more than there are now", []api.Errno{l.Cut(many + 1), l.Cut(many), l.Cut(-1), l.Sync()}, api.ErrRange, api.OK, api.ErrRange, api.OK)
				answers(t, "the third operation", []api.Errno{l.Put(1, "")}, api.ErrOff)
				d.Crash(0, 0)
				check(t, opened(t, d, 0), many, all[:many]...)
			}
		}
	}
}

// TestCutNumbers: P6.3, P6.4: whatever number, of a log with records and of one without; on a disk that is off, too.
func TestCutNumbers(t *testing.T) {
	d := made(t, 100)
	l, none := opened(t, d, 0), opened(t, d, 1)
	okay(t, l.Put(1, "a"), l.Put(2, ""))
	for range 2 {
		for _, n := range append([]int{3, 4, 7, 13}, numbers...) {
			answers(t, "no number of records", []api.Errno{l.Cut(n), none.Cut(n)}, api.ErrRange, api.ErrRange)
			at(t, l, n, record{}, api.ErrRange)
			at(t, none, n, record{}, api.ErrRange)
		}
		answers(t, "as many as there are", []api.Errno{l.Cut(2), none.Cut(0), none.Cut(1)}, api.OK, api.OK, api.ErrRange)
		check(t, l, 0, all[:2]...)
		check(t, none, 0)
		if d.On() {
			okay(t, d.Power(0))
			answers(t, "the power", []api.Errno{d.Sync()}, api.ErrOff)
		}
	}
	answers(t, "fewer, of one that is off", []api.Errno{l.Cut(1), l.Cut(0), l.Cut(-1), l.Cut(3)}, api.ErrOff, api.ErrOff, api.ErrRange, api.ErrRange)
	check(t, l, 0, all[:2]...)
	gone(t, d, 2)
}

// TestCutRefused: P6.3: the power goes at the disk's Cut, which changes nothing, or at the Sync behind it, behind which these alone are there.
func TestCutRefused(t *testing.T) {
	for sure := range 4 {
		for many := range 3 {
			for power := range 2 {
				for kept := range 6 {
					d := made(t, 100)
					l := opened(t, d, 0)
					for _, r := range all[:sure] {
						okay(t, l.Put(r.kind, r.text))
					}
					okay(t, l.Sync())
					for _, r := range all[sure:] {
						okay(t, l.Put(r.kind, r.text))
					}
					okay(t, d.Power(power))
					answers(t, "Cut", []api.Errno{l.Cut(many)}, api.ErrOff)
					gone(t, d, 3-sure+power)
					there := min(3, sure+kept)
					if power == 0 {
						check(t, l, sure, all...)
						wantSync := api.ErrOff
						if sure == 3 {
							wantSync = api.OK
						}
						answers(t, "behind it", []api.Errno{l.Sync(), l.Cut(many), l.Cut(3)}, wantSync, api.ErrOff, api.OK)
					} else {
						check(t, l, min(sure, many), all[:many]...)
						answers(t, "behind it: not all is sure", []api.Errno{l.Sync(), l.Cut(many), l.Cut(many + 1), l.Put(1, "")}, api.ErrOff, api.OK, api.ErrRange, api.ErrOff)
						check(t, l, min(sure, many), all[:many]...)
						if kept > 3-sure {
							there = many
						}
					}
					d.Crash(kept, 0)
					check(t, opened(t, d, 0), there, all[:there]...)
				}
			}
		}
	}
}

// TestPutBehindCut: P6.2, P6.3: what is put behind a Cut stands where that was cut off.
func TestPutBehindCut(t *testing.T) {
	d := made(t, 100)
	l := opened(t, d, 0)
	okay(t, l.Put(1, "a"), l.Put(2, ""), l.Put(3, "b"), l.Cut(1), l.Put(3, "b"))
	check(t, l, 1, record{1, "a"}, record{3, "b"})
	has(t, d, 0, one+three, 1)
	okay(t, l.Cut(0))
	check(t, l, 0)
	has(t, d, 0, "", 0)
	okay(t, l.Put(2, ""), l.Put(1, "a"), l.Sync(), l.Put(3, "b"), l.Cut(1))
	check(t, l, 1, record{2, ""})
	has(t, d, 0, two, 0)
	l = opened(t, d, 0)
	okay(t, l.Put(1, "a"), l.Put(3, "b"), l.Cut(2), l.Put(2, ""), l.Sync())
	check(t, l, 3, record{2, ""}, record{1, "a"}, record{2, ""})
	has(t, d, 0, two+one+two, 0)
	check(t, opened(t, d, 0), 3, record{2, ""}, record{1, "a"}, record{2, ""})
}

// TestApart: P6.5: logs in two files of one disk change nothing of one another.
func TestApart(t *testing.T) {
	d := made(t, 100)
	a, b := opened(t, d, 0), opened(t, d, 15)
	okay(t, a.Put(1, "a"), b.Put(2, ""), b.Put(3, "b"), a.Sync())
	check(t, a, 1, all[:1]...)
	check(t, b, 0, all[1:]...) // its Sync was not called
	okay(t, a.Put(9, "!"), a.Cut(0), b.Put(1, "a"))
	check(t, a, 0)
	check(t, b, 0, all[1], all[2], all[0])
	has(t, d, 0, "", 1)
	has(t, d, 15, two+three+one, 1)
	okay(t, d.Power(0))
	answers(t, "the power", []api.Errno{b.Cut(1), a.Sync()}, api.ErrOff, api.OK)
	check(t, a, 0)
	check(t, b, 0, all[1], all[2], all[0])
	d.Crash(0, 0)
	check(t, opened(t, d, 0), 0)
	check(t, opened(t, d, 15), 2, all[1:]...)
}

// TestApartTorn: P6.1, P6.5: Open of one file leaves the others' bytes.
func TestApartTorn(t *testing.T) {
	d := made(t, 1000)
	for file := range api.MaxFiles {
		okay(t, d.Append(file, one+shared))
	}
	okay(t, d.Sync())
	check(t, opened(t, d, 7), 1, all[0])
	for file := range api.MaxFiles {
		want := one + shared
		if file == 7 {
			want = one
		}
		has(t, d, file, want, 0)
	}
}

// call is one of a log's calls, or of its disk's.
type call struct {
	kind byte // o, p, s, c, w, x, j: Open, Put, Sync, Cut, the disk's Power, its Crash, an Append of bytes ahead of an Open
	n, m int
	text string
}

// words is a log by the chapter's words, on a disk of its own.
type words struct {
	d     *disk.Disk
	file  int
	l     []record
	sure  int
	still bool // all is sure
}

// bytesOf are the bytes of records.
func bytesOf(l []record) string {
	s := ""
	for _, r := range l {
		f, _ := frame.Put(r.kind, r.text)
		s += f
	}
	return s
}

// open does what Open is to do; none is told by a nil list.
func (w *words) open() api.Errno {
	w.l, w.sure, w.still = nil, 0, false
	s, e := w.d.Read(w.file)
	if e != api.OK {
		return e
	}
	l, rest := []record{}, s
	for {
		kind, text, size, e := frame.Take(rest)
		if e != api.OK {
			break
		}
		l, rest = append(l, record{kind, text}), rest[size:]
	}
	if rest != "" {
		if e := w.d.Cut(w.file, len(s)-len(rest)); e != api.OK {
			return e
		}
		if e := w.d.Sync(); e != api.OK {
			return e
		}
	}
	w.l, w.sure, w.still = l, len(l), true
	return api.OK
}

// sync makes all sure.
func (w *words) sync() api.Errno {
	e := w.d.Sync()
	if e == api.OK {
		w.sure, w.still = len(w.l), true
	}
	return e
}

// cut is Cut.
func (w *words) cut(many int) api.Errno {
	if many < 0 || many > len(w.l) {
		return api.ErrRange
	}
	if many == len(w.l) {
		return api.OK
	}
	if e := w.d.Cut(w.file, len(bytesOf(w.l[:many]))); e != api.OK {
		return e
	}
	w.l, w.still = slices.Clone(w.l[:many]), false
	w.sure = min(w.sure, many)
	return w.sync()
}

// do is what a call is to answer; it does what the call is to do.
func (w *words) do(c call) api.Errno {
	switch c.kind {
	case 'o', 'j', 'x':
		switch c.kind {
		case 'j':
			w.d.Append(w.file, c.text)
		case 'x':
			w.d.Crash(c.n, c.m)
		}
		return w.open()
	case 'w':
		return w.d.Power(c.n)
	}
	if w.l == nil {
		return api.ErrNil
	}
	switch c.kind {
	case 'p':
		f, e := frame.Put(uint8(c.n), c.text)
		if e == api.OK {
			e = w.d.Append(w.file, f)
		}
		if e == api.OK {
			w.l, w.still = append(w.l, record{uint8(c.n), c.text}), false
		}
		return e
	case 's':
		if w.still {
			return api.OK
		}
		return w.sync()
	}
	return w.cut(c.n)
}

// real is a log on its disk.
type real struct {
	d    *disk.Disk
	file int
	l    *log.Log
}

// do is what a call answers.
func (r *real) do(c call) (e api.Errno) {
	switch c.kind {
	case 'o', 'j', 'x':
		switch c.kind {
		case 'j':
			r.d.Append(r.file, c.text)
		case 'x':
			r.d.Crash(c.n, c.m)
		}
		r.l, e = log.Open(r.d, r.file)
		return e
	case 'w':
		return r.d.Power(c.n)
	case 'p':
		return r.l.Put(uint8(c.n), c.text)
	case 's':
		return r.l.Sync()
	}
	return r.l.Cut(c.n)
}

// both does a call, and holds all that the log and its disk tell then against the chapter's words.
func both(t *testing.T, r *real, w *words, c call) {
	t.Helper()
	got, want := r.do(c), w.do(c)
	if got != want {
		t.Fatalf("%c %d %d %.20q: error %d, want %d", c.kind, c.n, c.m, c.text, got, want)
	}
	if (r.l == nil) != (w.l == nil) || r.l.Len() != len(w.l) || r.l.Sure() != w.sure {
		t.Fatalf("behind %c %d %d %.20q: none: %v, len: %d, sure: %d, want %v, %d, %d", c.kind, c.n, c.m, c.text, r.l == nil, r.l.Len(), r.l.Sure(), w.l == nil, len(w.l), w.sure)
	}
	for i, x := range w.l {
		if kind, text, e := r.l.At(i); kind != x.kind || text != x.text || e != api.OK {
			t.Fatalf("behind %c %d %d %.20q: At(%d): %d, %.20q, error %d, want %d, %.20q", c.kind, c.n, c.m, c.text, i, kind, text, e, x.kind, x.text)
		}
	}
	if r.d.On() != w.d.On() || r.d.Loose() != w.d.Loose() || r.d.Left() != w.d.Left() {
		t.Fatalf("behind %c %d %d %.20q: on: %v, loose: %d, left: %d, want %v, %d, %d", c.kind, c.n, c.m, c.text, r.d.On(), r.d.Loose(), r.d.Left(), w.d.On(), w.d.Loose(), w.d.Left())
	}
	for file := range api.MaxFiles {
		a, _ := r.d.Read(file)
		if b, _ := w.d.Read(file); a != b {
			t.Fatalf("behind %c %d %d %.20q: file %d: %q, want %q", c.kind, c.n, c.m, c.text, file, a, b)
		}
	}
}

// pair is a log and its words, opened.
func pair(t *testing.T, room, file int) (*real, *words) {
	t.Helper()
	r, w := &real{d: made(t, room), file: file}, &words{d: made(t, room), file: file}
	both(t, r, w, call{kind: 'o'})
	return r, w
}

// few: calls that go one behind the other in each order.
var few = []call{{'p', 1, 0, "a"}, {'p', 2, 0, ""}, {'s', 0, 0, ""}, {'c', 0, 0, ""}, {'c', 1, 0, ""}, {'x', 1, 3, ""}}

// TestEachOrder: P6.2, P6.3, P6.5: few calls in each order, the power gone behind each of their operations or not at all, whatever a crash keeps.
func TestEachOrder(t *testing.T) {
	const long = 4
	order := make([]call, long)
	eachOrder(order, 0, func() {
		for power := -1; power < 2*long; power++ {
			for changes := -1; changes <= long+1; changes++ {
				for _, bytes := range []int{0, 5, 6} { // none, all but one of the shorter frame's, all of it
					oneOrder(t, order, power, changes, bytes)
				}
			}
		}
	})
}

// eachOrder fills l from i on with each order of few.
func eachOrder(l []call, i int, f func()) {
	if i == len(l) {
		f()
		return
	}
	for _, c := range few {
		l[i] = c
		eachOrder(l, i+1, f)
	}
}

// oneOrder does the calls, keeps what it is told of them in a crash, and asks for what is kept.
func oneOrder(t *testing.T, l []call, power, changes, bytes int) {
	d := made(t, 100)
	log0 := opened(t, d, 2)
	okay(t, log0.Put(7, "sure"), log0.Sync())
	d.Power(power)
	there := []record{{7, "sure"}} // all that may be there, the records that were cut off by a Cut that was not sure among them
	sure := 1                      // the first of them, that are there whatever is kept
	for _, c := range l {
		r := &real{d: d, file: 2, l: log0}
		e := r.do(c)
		if r.l != nil {
			log0 = r.l
		}
		switch {
		case c.kind == 'p' && e == api.OK:
			there = append(there, record{uint8(c.n), c.text})
		case c.kind == 's' && e == api.OK:
			sure = len(there)
		case c.kind == 'c' && e == api.OK && c.n < len(there):
			there, sure = there[:c.n], c.n
		case c.kind == 'c' && e == api.ErrOff:
			sure = min(sure, c.n)
		case c.kind == 'x' && log0.Len() >= sure && log0.Len() <= len(there):
			there, sure = there[:log0.Len()], log0.Len()
			check(t, log0, sure, there...)
		case c.kind == 'x':
			t.Fatalf("%v, power %d: %d records, of %d that may be there, %d that must", l, power, log0.Len(), len(there), sure)
		}
		if e != api.OK && e != api.ErrRange { // there is no power any more, and nothing more is done
			break
		}
	}
	d.Crash(changes, bytes)
	again := opened(t, d, 2)
	many := again.Len()
	if many < sure || many > len(there) || again.Sure() != many {
		t.Fatalf("%v, power %d, kept %d and %d: %d records, %d sure, of %d that may be there, %d that must", l, power, changes, bytes, many, again.Sure(), len(there), sure)
	}
	if changes > len(l) && power < 0 && many != len(there) {
		t.Fatalf("%v: all was kept, and %d records are there, of %d", l, many, len(there))
	}
	check(t, again, many, there[:many]...)
	has(t, d, 2, bytesOf(there[:many]), 0)
	okay(t, d.Power(0))
	check(t, opened(t, d, 2), many, there[:many]...)
	d.Crash(0, 0)
	check(t, opened(t, d, 2), many, there[:many]...)
}

// TestMixed: P6.1 to P6.5: long rows of calls of all kinds, wrong ones among them, against the chapter's words.
func TestMixed(t *testing.T) {
	for start := range 300 {
		x := uint32(start)
		below := func(n int) int {
			x = x*1664525 + 1013904223
			return int(x>>16) % n
		}
		r, w := pair(t, 1+below(200), below(16))
		for range 200 {
			c := call{kind: "ppppppppppsssccowxj"[below(19)], n: below(8)}
			switch c.kind {
			case 'p':
				c.n, c.text = below(6)*51, "0123456789abcdefghijklmnopqrst"[:below(12)]
			case 'c':
				c.n -= 1
			case 'w':
				c.n -= 1
			case 'x':
				c.n, c.m = c.n-1, below(24)-1
			case 'j':
				c.text = []string{"", one, shared, "?", two + three, two + "\x00", "\xff\xff"}[below(7)]
			}
			if below(20) == 0 && c.kind != 'p' {
				c.n = numbers[below(len(numbers))]
			}
			both(t, r, w, c)
		}
	}
}

// TestWrongBytes: R1, P6.1: whatever bytes a file has: each beginning of some, each with a byte put otherwise.
func TestWrongBytes(t *testing.T) {
	s := one + two + three + "\x05\x10" + "bytes"
	for i := range len(s) + 1 {
		for _, b := range []string{"", "\x00", "\x01", "\x02", "\x7f", "\x80", "\xff"} {
			for _, l := range []string{s[:i] + b, s[:i] + b + s[i:], s[:i] + b + s[min(i+1, len(s)):]} {
				for power := -1; power < 3; power++ {
					r, w := pair(t, 100, 0)
					both(t, r, w, call{kind: 'w', n: maxInt})
					r.d.Append(0, l)
					w.d.Append(0, l)
					both(t, r, w, call{kind: 'w', n: power})
					both(t, r, w, call{kind: 'o'})
					both(t, r, w, call{kind: 'p', n: 4, text: "d"})
					both(t, r, w, call{kind: 'c', n: 1})
					both(t, r, w, call{kind: 'x', n: power + 1, m: i})
				}
			}
		}
	}
}

// TestWrong: R1, R2: whatever numbers; a call that is refused has changed nothing.
func TestWrong(t *testing.T) {
	long := strings.Repeat("\x00", api.MaxBytes+1)
	for _, n := range append([]int{0, 1, 2, 3}, numbers...) {
		for _, kind := range []byte("opscwxj") {
			for _, text := range []string{"", "\xff\x00", long} {
				r, w := pair(t, 30, 0)
				both(t, r, w, call{'p', 1, 0, "a"})
				both(t, r, w, call{'s', 0, 0, ""})
				both(t, r, w, call{'p', 2, 0, "\x00\xff\n\u00e4"})
				both(t, r, w, call{kind, n, n, text})
				both(t, r, w, call{'x', n, n, ""})
			}
		}
	}
}

// TestMany: P6.2 to P6.4: many records stay what they are, whatever is cut off and put behind them.
func TestMany(t *testing.T) {
	d := made(t, api.MaxDisk)
	l := opened(t, d, 0)
	want := []record{}
	for i := range 3000 {
		r := record{uint8(1 + i%255), strings.Repeat(string([]byte{byte(i)}), i%90)}
		okay(t, l.Put(r.kind, r.text))
		want = append(want, r)
		if i%500 == 333 {
			okay(t, l.Cut(i/2))
			want = append([]record{}, want[:i/2]...)
			check(t, l, len(want), want...)
		}
		if l.Len() != len(want) {
			want = want[:l.Len()]
		}
		if i%700 == 0 {
			okay(t, l.Sync())
		}
	}
	okay(t, l.Sync())
	check(t, l, len(want), want...)
	check(t, opened(t, d, 0), len(want), want...)
}
