package disk_test

import (
	"math"
	"slices"
	"strings"
	"testing"

	"changeling/api"
	"changeling/disk"
)

const minInt, maxInt = math.MinInt, math.MaxInt

// numbers: that say no file, size or choice, and at which something begins.
var numbers = []int{minInt, minInt + 1, -1 << 32, -17, -16, -2, -1, 16, 17, 32, 1 << 16, 1 << 22, 1 << 32, 1<<32 + 1, maxInt - 1, maxInt}

// has: what the files that are not empty have.
type has map[int]string

// made is New of a room that there is.
func made(t *testing.T, room int) *disk.Disk {
	t.Helper()
	d, e := disk.New(room)
	if d == nil || e != api.OK {
		t.Fatalf("New(%d): error %d", room, e)
	}
	return d
}

// answers holds errors against those that are wanted, in turn.
func answers(t *testing.T, what string, got []api.Errno, want ...api.Errno) {
	t.Helper()
	if !slices.Equal(got, want) {
		t.Errorf("%s: errors %d, want %d", what, got, want)
	}
}

// okay asks that all calls were done.
func okay(t *testing.T, l ...api.Errno) {
	t.Helper()
	for i, e := range l {
		if e != api.OK {
			t.Errorf("call %d: error %d", i, e)
		}
	}
}

// reads asks for one answer of Read.
func reads(t *testing.T, d *disk.Disk, file int, want string, wantE api.Errno) {
	t.Helper()
	if s, e := d.Read(file); s != want || e != wantE {
		t.Errorf("Read(%d): %.40q, %d bytes, error %d, want %.40q, %d bytes, error %d", file, s, len(s), e, want, len(want), wantE)
	}
}

// check asks for all that a disk that is on tells.
func check(t *testing.T, d *disk.Disk, want has, loose, left int) {
	t.Helper()
	for file := range api.MaxFiles {
		reads(t, d, file, want[file], api.OK)
	}
	if !d.On() || d.Loose() != loose || d.Left() != left {
		t.Errorf("on: %v, loose: %d, left: %d; want true, %d, %d", d.On(), d.Loose(), d.Left(), loose, left)
	}
}

// refuses asks for the same error of each call that is handed a number.
func refuses(t *testing.T, d *disk.Disk, n int, want api.Errno) {
	t.Helper()
	for i, e := range []api.Errno{d.Append(n, "a"), d.Append(n, ""), d.Append(n, zeros), d.Cut(n, 0), d.Cut(0, n), d.Move(n, 1), d.Move(0, n), d.Move(n, n), d.Sync(), d.Power(n)} {
		if e != want {
			t.Errorf("call %d, handed %d: error %d, want %d", i, n, e, want)
		}
	}
	reads(t, d, n, "", want)
}

// checkOff asks for all that a disk that is off tells, and that it refuses each call, whatever it is handed.
func checkOff(t *testing.T, d *disk.Disk, loose, left int) {
	t.Helper()
	for _, n := range append([]int{0, 1, 15}, numbers...) {
		refuses(t, d, n, api.ErrOff)
	}
	if d.On() || d.Loose() != loose || d.Left() != left {
		t.Errorf("off: on: %v, loose: %d, left: %d; want false, %d, %d", d.On(), d.Loose(), d.Left(), loose, left)
	}
}

var zeros = strings.Repeat("\x00", api.MaxDisk+1)

// TestNew: P5.1: rooms that there are, and that there are not.
func TestNew(t *testing.T) {
	for _, room := range []int{minInt, -1 << 22, -1, 0, 1<<22 + 1, 1 << 23, 1 << 32, 1<<32 + 1, maxInt} {
		if d, e := disk.New(room); d != nil || e != api.ErrArg {
			t.Errorf("New(%d): a disk: %v, error %d", room, d != nil, e)
		}
	}
	for _, room := range []int{1, 2, 10, 65536, 1<<22 - 1, 1 << 22} {
		d := made(t, room)
		check(t, d, nil, 0, room)
		answers(t, "one more than the room, the room, one more", []api.Errno{d.Append(15, zeros[:room+1]), d.Append(15, zeros[:room]), d.Append(0, "a"), d.Append(0, "")},
			api.ErrFull, api.OK, api.ErrFull, api.OK)
		check(t, d, has{15: zeros[:room]}, 2, 0)
	}
}

// TestNil: R4, P5.1 to P5.3: every call of no disk.
func TestNil(t *testing.T) {
	var d *disk.Disk
	for _, n := range append([]int{0, 1, 15}, numbers...) {
		refuses(t, d, n, api.ErrNil)
		d.Crash(n, 0)
		d.Crash(0, n)
		d.Crash(n, n)
		if d.On() || d.Loose() != 0 || d.Left() != 0 {
			t.Errorf("nil: on: %v, loose: %d, left: %d", d.On(), d.Loose(), d.Left())
		}
	}
}

// TestExamples: the chapter's.
func TestExamples(t *testing.T) {
	d := made(t, 10)
	answers(t, "first row", []api.Errno{d.Append(0, "abc"), d.Sync(), d.Append(0, "de"), d.Cut(0, 1)}, api.OK, api.OK, api.OK, api.OK)
	check(t, d, has{0: "a"}, 2, 9)
	d.Crash(1, 0)
	reads(t, d, 0, "abcde", api.OK)
	answers(t, "second row", []api.Errno{d.Append(1, "sixsix")}, api.ErrFull)
	check(t, d, has{0: "abcde"}, 0, 5)
	answers(t, "third row", []api.Errno{d.Power(0), d.Sync()}, api.OK, api.ErrOff)
	reads(t, d, 0, "", api.ErrOff)
	d.Crash(0, 0)
	answers(t, "third row, behind the crash", []api.Errno{d.Move(0, 1)}, api.OK)
	reads(t, d, 1, "abcde", api.OK)
}

// TestAppend: P5.2: behind what the file has, as long as there is room, whichever files hold the rest.
func TestAppend(t *testing.T) {
	d := made(t, 10)
	okay(t, d.Append(3, ""))
	check(t, d, nil, 1, 10)
	okay(t, d.Append(3, "ab"), d.Append(3, "\x00\xff"), d.Append(3, ""), d.Append(0, "\n"))
	check(t, d, has{3: "ab\x00\xff", 0: "\n"}, 5, 5)
	okay(t, d.Append(15, "cd"))
	answers(t, "with 3 bytes left", []api.Errno{d.Append(3, "efgh"), d.Append(15, "efgh"), d.Append(7, "efgh"), d.Append(7, zeros)}, api.ErrFull, api.ErrFull, api.ErrFull, api.ErrFull)
	check(t, d, has{3: "ab\x00\xff", 0: "\n", 15: "cd"}, 6, 3)
	okay(t, d.Append(7, "efg"))
	check(t, d, has{3: "ab\x00\xff", 0: "\n", 15: "cd", 7: "efg"}, 7, 0)
	answers(t, "with no byte left", []api.Errno{d.Append(3, "h"), d.Append(9, "h"), d.Append(3, ""), d.Append(9, "")}, api.ErrFull, api.ErrFull, api.OK, api.OK)
	check(t, d, has{3: "ab\x00\xff", 0: "\n", 15: "cd", 7: "efg"}, 9, 0)
	okay(t, d.Cut(15, 1), d.Sync())
	answers(t, "with one byte left", []api.Errno{d.Append(4, "ij"), d.Append(4, "i"), d.Append(4, "j")}, api.ErrFull, api.OK, api.ErrFull)
	check(t, d, has{3: "ab\x00\xff", 0: "\n", 15: "c", 7: "efg", 4: "i"}, 1, 0)
}

// TestManyBytes: P5.2, P5.3: a byte at a time, up to the room; what was read stays what it was.
func TestManyBytes(t *testing.T) {
	d := made(t, 5000)
	want := ""
	for i := range 5000 {
		s := string([]byte{byte(i * 7)})
		want += s
		okay(t, d.Append(5, s))
		if i%1000 != 333 {
			continue
		}
		read, _ := d.Read(5)
		okay(t, d.Sync(), d.Cut(5, i/2), d.Append(5, "xyz"), d.Move(5, 6))
		if read != want {
			t.Fatalf("what was read has changed behind %d bytes", i+1)
		}
		d.Crash(0, 0)
		if read != want {
			t.Fatalf("what was read has changed behind a crash, %d bytes", i+1)
		}
	}
	check(t, d, has{5: want}, 5000-4334, 0)
	d.Crash(100, 0)
	check(t, d, has{5: want[:4434]}, 0, 566)
}

// TestCut: P5.2: the first bytes stay.
func TestCut(t *testing.T) {
	d := made(t, 10)
	okay(t, d.Append(2, "abcdef"), d.Append(1, "xy"))
	answers(t, "sizes that are none", []api.Errno{d.Cut(2, -1), d.Cut(2, 7), d.Cut(1, 3), d.Cut(0, 1), d.Cut(0, -1), d.Cut(2, minInt), d.Cut(2, maxInt), d.Cut(2, 1<<32)},
		api.ErrRange, api.ErrRange, api.ErrRange, api.ErrRange, api.ErrRange, api.ErrRange, api.ErrRange, api.ErrRange)
	check(t, d, has{2: "abcdef", 1: "xy"}, 2, 2)
	okay(t, d.Cut(2, 6))
	check(t, d, has{2: "abcdef", 1: "xy"}, 3, 2)
	okay(t, d.Cut(2, 5))
	check(t, d, has{2: "abcde", 1: "xy"}, 4, 3)
	answers(t, "one more than there are now", []api.Errno{d.Cut(2, 6)}, api.ErrRange)
	okay(t, d.Cut(2, 1), d.Cut(2, 0), d.Cut(0, 0))
	check(t, d, has{1: "xy"}, 7, 8)
	answers(t, "of an empty one", []api.Errno{d.Cut(2, 1), d.Cut(2, 0)}, api.ErrRange, api.OK)
	okay(t, d.Append(2, "AB"))
	check(t, d, has{2: "AB", 1: "xy"}, 9, 6)
	d.Crash(3, 0)
	check(t, d, has{2: "abcdef", 1: "xy"}, 0, 2)
}

// TestMove: P5.2: from one file to another, that may hold bytes.
func TestMove(t *testing.T) {
	d := made(t, 10)
	okay(t, d.Append(0, "abc"), d.Append(15, "de"), d.Move(0, 7))
	check(t, d, has{7: "abc", 15: "de"}, 3, 5)
	okay(t, d.Move(7, 15))
	check(t, d, has{15: "abc"}, 4, 7)
	okay(t, d.Move(3, 4))
	check(t, d, has{15: "abc"}, 5, 7)
	okay(t, d.Append(15, "f"), d.Append(7, "g"), d.Append(0, "h"))
	check(t, d, has{15: "abcf", 7: "g", 0: "h"}, 8, 4)
	okay(t, d.Move(3, 0), d.Move(3, 15))
	check(t, d, has{7: "g"}, 10, 9)
	d.Crash(9, 0)
	check(t, d, has{15: "abcf", 7: "g"}, 0, 5)
	answers(t, "to itself", []api.Errno{d.Move(15, 15), d.Move(0, 0), d.Move(3, 3)}, api.ErrArg, api.ErrArg, api.ErrArg)
	check(t, d, has{15: "abcf", 7: "g"}, 0, 5)
}

// TestFiles: P5.2, P5.3: each file that there is, and those that there are not.
func TestFiles(t *testing.T) {
	d := made(t, 100)
	want := has{}
	for file := range api.MaxFiles {
		want[file] = string([]byte{'a' + byte(file)})
		okay(t, d.Append(file, want[file]+"-"), d.Cut(file, 1))
	}
	check(t, d, want, 32, 84)
	for _, n := range numbers {
		answers(t, "no such file", []api.Errno{d.Append(n, "a"), d.Append(n, ""), d.Cut(n, 0), d.Cut(n, 1), d.Move(n, 0), d.Move(0, n), d.Move(n, n)},
			api.ErrArg, api.ErrArg, api.ErrArg, api.ErrArg, api.ErrArg, api.ErrArg, api.ErrArg)
		reads(t, d, n, "", api.ErrArg)
	}
	check(t, d, want, 32, 84)
}

// TestFirstError: R2, P5.2, P5.3: of several errors that apply the one that is named first; none but ErrOff takes an operation of the power's.
func TestFirstError(t *testing.T) {
	d := made(t, 4)
	okay(t, d.Append(0, "abc"), d.Power(0))
	answers(t, "no such file, no room, no such size, no power", []api.Errno{d.Append(16, "abcde"), d.Append(-1, ""), d.Append(1, "ab"), d.Cut(16, -1), d.Cut(-1, 0), d.Cut(0, 4), d.Cut(0, -1), d.Move(16, 0), d.Move(0, -1), d.Move(3, 3), d.Power(-1)},
		api.ErrArg, api.ErrArg, api.ErrFull, api.ErrArg, api.ErrArg, api.ErrRange, api.ErrRange, api.ErrArg, api.ErrArg, api.ErrArg, api.ErrArg)
	reads(t, d, 16, "", api.ErrArg)
	check(t, d, has{0: "abc"}, 1, 1)
	answers(t, "no power", []api.Errno{d.Append(0, "")}, api.ErrOff)
	checkOff(t, d, 1, 1)
	d.Crash(1, 0)
	check(t, d, has{0: "abc"}, 0, 1)
}

// TestPowerGoes: P5.3: behind so many operations, whichever the next one is; it is not done.
func TestPowerGoes(t *testing.T) {
	calls := []func(d *disk.Disk) api.Errno{
		func(d *disk.Disk) api.Errno { return d.Append(1, "x") },
		func(d *disk.Disk) api.Errno { return d.Append(1, "") },
		func(d *disk.Disk) api.Errno { return d.Cut(0, 0) },
		func(d *disk.Disk) api.Errno { return d.Cut(0, 3) },
		func(d *disk.Disk) api.Errno { return d.Move(0, 1) },
		func(d *disk.Disk) api.Errno { return d.Move(3, 4) },
		func(d *disk.Disk) api.Errno { return d.Sync() },
	}
	still := []func(d *disk.Disk) api.Errno{calls[1], calls[3], calls[5]} // those that change nothing, and make nothing sure
	for i, last := range calls {
		for n := range 6 {
			d := made(t, 10)
			okay(t, d.Append(0, "abc"), d.Append(2, "d"), d.Power(n))
			for j := range n {
				okay(t, still[j%len(still)](d))
				d.Read(0) // neither asking nor telling is an operation
				d.On()
				d.Loose()
				d.Left()
				answers(t, "refused", []api.Errno{d.Append(0, zeros), d.Append(16, ""), d.Cut(0, 4), d.Cut(-1, 0), d.Move(1, 1), d.Power(-1)},
					api.ErrFull, api.ErrArg, api.ErrRange, api.ErrArg, api.ErrArg, api.ErrArg)
			}
			loose := d.Loose()
			check(t, d, has{0: "abc", 2: "d"}, loose, 6)
			if e := last(d); e != api.ErrOff {
				t.Errorf("call %d behind %d: error %d", i, n, e)
			}
			checkOff(t, d, loose, 6)
			d.Crash(1, 0)
			check(t, d, has{0: "abc"}, 0, 7)
			for range 3 {
				okay(t, d.Append(0, ""), last(d)) // the power is told nothing any more
			}
		}
	}
}

// TestPowerCounts: P5.3: each call that is done is one operation, the calls Sync, and those that change nothing, too.
func TestPowerCounts(t *testing.T) {
	d := made(t, 4)
	okay(t, d.Power(8))
	okay(t, d.Sync(), d.Append(0, ""), d.Append(0, "abcd"), d.Sync(), d.Sync(), d.Cut(0, 4), d.Move(1, 2), d.Cut(0, 1))
	check(t, d, has{0: "a"}, 3, 3)
	answers(t, "the ninth", []api.Errno{d.Append(1, "x"), d.Append(1, "x")}, api.ErrOff, api.ErrOff)
	checkOff(t, d, 3, 3)
	d.Crash(maxInt, maxInt)
	check(t, d, has{0: "a"}, 0, 3)
}

// TestPowerAgain: P5.3: what it was told last holds; what is no number of operations tells nothing.
func TestPowerAgain(t *testing.T) {
	for _, told := range [][]int{{2}, {0, 2}, {1, 2}, {5, 2}, {maxInt, 2}, {0, 1, 0, 2}, {2, -1}, {2, minInt}, {3, 2, -2}} {
		d := made(t, 4)
		for _, n := range told {
			want := api.OK
			if n < 0 {
				want = api.ErrArg
			}
			answers(t, "Power", []api.Errno{d.Power(n)}, want)
		}
		answers(t, "told to go behind two", []api.Errno{d.Append(0, "a"), d.Sync(), d.Append(0, "b")}, api.OK, api.OK, api.ErrOff)
		checkOff(t, d, 0, 3)
	}
	d := made(t, 4)
	okay(t, d.Power(2), d.Append(0, "a"), d.Power(2), d.Append(0, "b"), d.Append(0, "c"), d.Power(1), d.Sync())
	answers(t, "told again between", []api.Errno{d.Sync()}, api.ErrOff)
	d.Crash(0, 0)
	check(t, d, has{0: "abc"}, 0, 1)
	answers(t, "-1 alone", []api.Errno{d.Power(-1), d.Power(minInt)}, api.ErrArg, api.ErrArg)
	for range 100 {
		okay(t, d.Sync(), d.Append(0, ""))
	}
	okay(t, d.Power(maxInt))
	for range 100 {
		okay(t, d.Sync(), d.Append(0, ""))
	}
}

// TestSyncOff: P5.3: a Sync that is refused makes nothing sure.
func TestSyncOff(t *testing.T) {
	d := made(t, 4)
	okay(t, d.Append(0, "ab"), d.Power(0))
	answers(t, "Sync", []api.Errno{d.Sync(), d.Sync()}, api.ErrOff, api.ErrOff)
	checkOff(t, d, 1, 2)
	d.Crash(0, 0)
	check(t, d, nil, 0, 4)
}

// loosened is a disk of which 0: abc and 1: xy are sure, and these changes are loose: Append(0, de), Cut(0, 2), Append(1, z), Move(0, 2), Append(0, f).
func loosened(t *testing.T) *disk.Disk {
	t.Helper()
	d := made(t, 20)
	okay(t, d.Append(0, "abc"), d.Append(1, "xy"), d.Sync())
	okay(t, d.Append(0, "de"), d.Cut(0, 2), d.Append(1, "z"), d.Move(0, 2), d.Append(0, "fgh"))
	check(t, d, has{0: "fgh", 1: "xyz", 2: "ab"}, 5, 12)
	return d
}

// crashes: a choice of what is kept of loosened, and what the files are then.
var crashes = []struct {
	changes, bytes int
	want           has
}{
	// None: the next one is an Append of two bytes.
	{minInt, minInt, has{0: "abc", 1: "xy"}}, {-1, -1, has{0: "abc", 1: "xy"}}, {-1, 0, has{0: "abc", 1: "xy"}}, {-1, 1, has{0: "abcd", 1: "xy"}}, {-5, 2, has{0: "abcde", 1: "xy"}}, {minInt, maxInt, has{0: "abcde", 1: "xy"}},
	{0, minInt, has{0: "abc", 1: "xy"}}, {0, -1, has{0: "abc", 1: "xy"}}, {0, 0, has{0: "abc", 1: "xy"}}, {0, 1, has{0: "abcd", 1: "xy"}}, {0, 2, has{0: "abcde", 1: "xy"}}, {0, 3, has{0: "abcde", 1: "xy"}}, {0, maxInt, has{0: "abcde", 1: "xy"}},
	// One: the next one is a Cut, that is done whole, or not at all.
	{1, -1, has{0: "abcde", 1: "xy"}}, {1, 0, has{0: "abcde", 1: "xy"}}, {1, 1, has{0: "abcde", 1: "xy"}}, {1, maxInt, has{0: "abcde", 1: "xy"}},
	// Two: an Append of one byte.
	{2, -1, has{0: "ab", 1: "xy"}}, {2, 0, has{0: "ab", 1: "xy"}}, {2, 1, has{0: "ab", 1: "xyz"}}, {2, 2, has{0: "ab", 1: "xyz"}},
	// Three: a Move.
	{3, -1, has{0: "ab", 1: "xyz"}}, {3, 0, has{0: "ab", 1: "xyz"}}, {3, 1, has{0: "ab", 1: "xyz"}}, {3, maxInt, has{0: "ab", 1: "xyz"}},
	// Four: an Append to the file whose bytes went.
	{4, minInt, has{1: "xyz", 2: "ab"}}, {4, 0, has{1: "xyz", 2: "ab"}}, {4, 1, has{0: "f", 1: "xyz", 2: "ab"}}, {4, 2, has{0: "fg", 1: "xyz", 2: "ab"}}, {4, 3, has{0: "fgh", 1: "xyz", 2: "ab"}}, {4, 4, has{0: "fgh", 1: "xyz", 2: "ab"}},
	// All: there is no next one.
	{5, -1, has{0: "fgh", 1: "xyz", 2: "ab"}}, {5, 0, has{0: "fgh", 1: "xyz", 2: "ab"}}, {5, 3, has{0: "fgh", 1: "xyz", 2: "ab"}}, {6, 0, has{0: "fgh", 1: "xyz", 2: "ab"}}, {6, 1, has{0: "fgh", 1: "xyz", 2: "ab"}}, {maxInt, maxInt, has{0: "fgh", 1: "xyz", 2: "ab"}}, {maxInt, minInt, has{0: "fgh", 1: "xyz", 2: "ab"}},
}

// left: how much of loosened's room is left beside these bytes.
func (h has) left() int {
	left := 20
	for _, s := range h {
		left -= len(s)
	}
	return left
}

// TestCrash: P5.3, P5.4: whatever is kept; a second crash changes nothing.
func TestCrash(t *testing.T) {
	for _, c := range crashes {
		for _, power := range []int{-1, 0, 7} { // not told to go; gone; told to go later
			d := loosened(t)
			switch power {
			case 0:
				okay(t, d.Power(0))
				answers(t, "the power", []api.Errno{d.Sync()}, api.ErrOff)
				checkOff(t, d, 5, 12)
			case 7:
				okay(t, d.Power(7))
			}
			d.Crash(c.changes, c.bytes)
			check(t, d, c.want, 0, c.want.left())
			for _, again := range [][2]int{{0, 0}, {-1, -1}, {1, 0}, {0, 1}, {maxInt, maxInt}, {minInt, minInt}} {
				d.Crash(again[0], again[1])
				check(t, d, c.want, 0, c.want.left())
			}
			for range 8 { // the power is told nothing any more
				okay(t, d.Append(9, ""))
			}
			okay(t, d.Append(9, "!"), d.Cut(1, 1), d.Move(1, 8), d.Append(1, "."))
			d.Crash(0, 9)
			check(t, d, c.want, 0, c.want.left())
		}
	}
}

// TestCrashNone: P5.3, P5.4: with nothing loose.
func TestCrashNone(t *testing.T) {
	for _, c := range crashes {
		d := made(t, 20)
		d.Crash(c.changes, c.bytes)
		check(t, d, nil, 0, 20)
		okay(t, d.Append(0, "abc"), d.Sync())
		d.Crash(c.changes, c.bytes)
		check(t, d, has{0: "abc"}, 0, 17)
		okay(t, d.Power(1), d.Sync())
		answers(t, "the power", []api.Errno{d.Append(0, "d")}, api.ErrOff)
		checkOff(t, d, 0, 17)
		d.Crash(c.changes, c.bytes)
		check(t, d, has{0: "abc"}, 0, 17)
	}
}

// TestCrashEmpty: P5.3: changes that change nothing are changes, and are counted.
func TestCrashEmpty(t *testing.T) {
	for kept, want := range []has{nil, nil, nil, nil, {5: "a"}, {5: "ab"}, {5: "ab"}} {
		d := made(t, 20)
		okay(t, d.Append(5, ""), d.Cut(5, 0), d.Move(5, 6), d.Append(5, "a"), d.Append(5, "b"))
		d.Crash(kept, 0)
		check(t, d, want, 0, 20-len(want[5]))
	}
}

// TestKept: P5.4: what is synced is never lost, however often the power goes behind it.
func TestKept(t *testing.T) {
	d := made(t, 1000)
	want := ""
	for i := range 100 {
		s := string([]byte{byte(i), byte(i * 3)})
		okay(t, d.Append(0, s), d.Sync(), d.Cut(0, i), d.Append(0, "???"), d.Move(0, 1), d.Append(0, "!"), d.Power(i%2))
		want += s
		d.Append(2, "")
		d.Crash(0, i)
		check(t, d, has{0: want}, 0, 998-2*i)
	}
}

// TestApart: P5.4: one disk's calls change nothing of another disk.
func TestApart(t *testing.T) {
	a, b := loosened(t), loosened(t)
	okay(t, a.Cut(1, 0), a.Append(0, "0123"), a.Sync(), a.Append(3, "4"), a.Power(0))
	answers(t, "the power", []api.Errno{a.Sync()}, api.ErrOff)
	check(t, b, has{0: "fgh", 1: "xyz", 2: "ab"}, 5, 12)
	okay(t, b.Append(1, "!"))
	b.Crash(0, 1)
	check(t, b, has{0: "abcd", 1: "xy"}, 0, 14)
	checkOff(t, a, 1, 10)
	a.Crash(0, 0)
	check(t, a, has{0: "fgh0123", 2: "ab"}, 0, 11)
	check(t, b, has{0: "abcd", 1: "xy"}, 0, 14)
}

// act is a call.
type act struct {
	kind byte // a, c, m, s, p, x: Append, Cut, Move, Sync, Power, Crash
	n, m int  // its numbers, in their order
	s    string
}

// words is a disk by the chapter's words: what all files were behind the last Sync, and behind each change since.
type words struct {
	room, left int // left: operations until the power goes; -1, if it is not told to
	off        bool
	were       [][api.MaxFiles]string
	loose      []act
}

func byWords(room int) *words {
	return &words{room: room, left: -1, were: make([][api.MaxFiles]string, 1)}
}

// now is what the files have.
func (w *words) now() [api.MaxFiles]string { return w.were[len(w.were)-1] }

// free is for how many bytes there is room.
func (w *words) free() int {
	free := w.room
	for _, s := range w.now() {
		free -= len(s)
	}
	return free
}

// do is what a call is to answer; it does what the call is to do.
func (w *words) do(a act) api.Errno {
	switch {
	case a.kind == 'x':
		w.crash(a.n, a.m)
		return api.OK
	case w.off:
		return api.ErrOff
	case a.kind == 'p' && a.n < 0:
		return api.ErrArg
	case a.kind == 'p':
		w.left = a.n
		return api.OK
	case strings.IndexByte("acm", a.kind) >= 0 && (a.n < 0 || a.n > 15), a.kind == 'm' && (a.m < 0 || a.m > 15 || a.m == a.n):
		return api.ErrArg
	case a.kind == 'a' && len(a.s) > w.free():
		return api.ErrFull
	case a.kind == 'c' && (a.m < 0 || a.m > len(w.now()[a.n])):
		return api.ErrRange
	case w.left == 0:
		w.off = true
		return api.ErrOff
	}
	if w.left > 0 {
		w.left--
	}
	f := w.now()
	switch a.kind {
	case 's':
		w.were, w.loose = w.were[len(w.were)-1:], nil
		return api.OK
	case 'a':
		f[a.n] = f[a.n] + a.s
	case 'c':
		f[a.n] = f[a.n][:a.m]
	case 'm':
		f[a.m] = f[a.n]
		f[a.n] = ""
	}
	w.were, w.loose = append(w.were, f), append(w.loose, a)
	return api.OK
}

// crash: what is kept of the loose changes.
func (w *words) crash(changes, bytes int) {
	if changes < 0 {
		changes = 0
	}
	if changes > len(w.loose) {
		changes = len(w.loose)
	}
	f := w.were[changes]
	if changes < len(w.loose) && w.loose[changes].kind == 'a' && bytes > 0 {
		a := w.loose[changes]
		if bytes > len(a.s) {
			bytes = len(a.s)
		}
		f[a.n] = f[a.n] + a.s[:bytes]
	}
	*w = words{room: w.room, left: -1, were: [][api.MaxFiles]string{f}}
}

// do is what a call answers.
func do(d *disk.Disk, a act) api.Errno {
	switch a.kind {
	case 'a':
		return d.Append(a.n, a.s)
	case 'c':
		return d.Cut(a.n, a.m)
	case 'm':
		return d.Move(a.n, a.m)
	case 's':
		return d.Sync()
	case 'p':
		return d.Power(a.n)
	}
	d.Crash(a.n, a.m)
	return api.OK
}

// both does a call, and holds all that the disk tells then against the chapter's words.
func both(t *testing.T, d *disk.Disk, w *words, a act) {
	t.Helper()
	got, want := do(d, a), w.do(a)
	if got != want {
		t.Fatalf("%c %d %d %q: error %d, want %d", a.kind, a.n, a.m, a.s, got, want)
	}
	if d.On() != !w.off || d.Loose() != len(w.loose) || d.Left() != w.free() {
		t.Fatalf("behind %c %d %d %q: on: %v, loose: %d, left: %d, want %v, %d, %d", a.kind, a.n, a.m, a.s, d.On(), d.Loose(), d.Left(), !w.off, len(w.loose), w.free())
	}
	for file, want := range w.now() {
		wantE := api.OK
		if w.off {
			want, wantE = "", api.ErrOff
		}
		if s, e := d.Read(file); s != want || e != wantE {
			t.Fatalf("behind %c %d %d %q: Read(%d): %q, error %d, want %q, error %d", a.kind, a.n, a.m, a.s, file, s, e, want, wantE)
		}
	}
}

// few: calls that go one behind the other in each order.
var few = []act{{'a', 0, 0, "ab"}, {'a', 1, 0, "c"}, {'a', 0, 0, ""}, {'c', 0, 1, ""}, {'c', 0, 0, ""}, {'m', 0, 1, ""}, {'m', 1, 0, ""}, {'s', 0, 0, ""}}

// TestEachOrder: P5.2 to P5.4: few calls in each order, the power gone behind each of them or not at all, whatever a crash keeps.
func TestEachOrder(t *testing.T) {
	const long = 4
	for power := -1; power < long; power++ {
		order := make([]act, long)
		eachOrder(order, 0, func() {
			for changes := -1; changes <= long+1; changes++ {
				for bytes := -1; bytes <= 3; bytes++ {
					d, w := made(t, 5), byWords(5)
					l := slices.Concat([]act{{'a', 0, 0, "xy"}, {'s', 0, 0, ""}, {'p', power, 0, ""}}, order)
					for _, a := range l {
						if got, want := do(d, a), w.do(a); got != want {
							t.Fatalf("%v: error %d, want %d", l, got, want)
						}
					}
					both(t, d, w, act{'x', changes, bytes, ""})
					if changes+bytes == 1 {
						both(t, d, w, act{'a', 0, 0, "q"})
						both(t, d, w, act{'x', 0, 0, ""})
					}
				}
			}
		})
	}
}

// eachOrder fills l from i on with each order of few.
func eachOrder(l []act, i int, f func()) {
	if i == len(l) {
		f()
		return
	}
	for _, a := range few {
		l[i] = a
		eachOrder(l, i+1, f)
	}
}

// TestMixed: P5.1 to P5.4: long rows of calls of all kinds, wrong ones among them, against the chapter's words.
func TestMixed(t *testing.T) {
	for start := range 300 {
		x := uint32(start)
		below := func(n int) int {
			x = x*1664525 + 1013904223
			return int(x>>16) % n
		}
		room := 1 + below(60)
		d, w := made(t, room), byWords(room)
		for range 200 {
			a := act{kind: "aaaaaaaaccmmsspx"[below(16)], n: below(5), m: below(5)}
			switch {
			case a.kind == 'a':
				a.s = "0123456789abcdefghijklmnopqrst"[:below(12)]
			case a.kind == 'c':
				a.m = below(20) - 1
			case a.kind == 'p':
				a.n = below(12) - 1
			case a.kind == 'x':
				a.n, a.m = below(12)-2, below(14)-2
			}
			if below(20) == 0 {
				a.n = numbers[below(len(numbers))]
			}
			if below(20) == 0 {
				a.m = numbers[below(len(numbers))]
			}
			both(t, d, w, a)
		}
	}
}

// TestWrong: R1, R2: whatever numbers and bytes; a call that is refused has changed nothing.
func TestWrong(t *testing.T) {
	for _, n := range append([]int{0, 1, 2, 15}, numbers...) {
		for _, m := range append([]int{0, 1, 3, 4, 15}, numbers...) {
			for _, kind := range []byte("acmspx") {
				for _, s := range []string{"", "\xff\x00", zeros} {
					d, w := made(t, 10), byWords(10)
					both(t, d, w, act{'a', 0, 0, "abc"})
					both(t, d, w, act{'s', 0, 0, ""})
					both(t, d, w, act{'a', 1, 0, "\x00\xff\n\u00e4"})
					both(t, d, w, act{kind, n, m, s})
					both(t, d, w, act{'x', n, m, ""})
				}
			}
		}
	}
}
