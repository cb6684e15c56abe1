package flow_test

import (
	"slices"
	"strings"
	"testing"

	"changeling/api"
)

// small are jobs with few works, of every kind of node; of some one node reads two, of some two read one.
func small(par int) []api.Job {
	return []api.Job{
		shortest(par),
		of18(par),
		jobOf(par, "s source", "w window s 2", "t sink w"),
		jobOf(par, "s source", "f flat s : 2", "k key f : val", "r reduce k : acc + val", "t sink r"),
		jobOf(par, "s source", "f filter s : val != 3", "u union f s", "t sink u"),
		jobOf(par, "s source", "m map s : -val", "k key s : val", "u union m k", "w window u 2", "t sink w"),
		jobOf(par, "s source", "f flat s : val", "k key f : val", "r reduce k : acc * 10 + val", "v map r : val % 5", "u union s v r", "w window u 3", "k2 key w : key % 2", "q reduce k2 : acc + val", "t sink q"),
	}
}

// done is what was done with a flow: a work that was picked, or else what was fed.
type done int

const (
	fed0 done = -1 - iota
	fed1
	fedBar
)

// do does it; the records that are fed hang on how many were fed.
func (b *both) do(x done) {
	b.t.Helper()
	at := int64(len(b.w.fed))
	switch x {
	case fed0:
		b.feed(0, 3+at*at, 1+at)
	case fed1:
		b.feed(1, 6-at, 5*at)
	case fedBar:
		b.bar(1 + at)
	default:
		b.turn(int(x))
	}
}

// TestRows: all rows of five calls, of a flow of four works.
func TestRows(t *testing.T) {
	all := []done{fed0, fed1, fedBar, 0, 1, 2, 3}
	for room := 1; room <= 2; room++ {
		rows := 1
		for range 5 {
			rows *= len(all)
		}
		for n := range rows {
			b := made(t, shortest(1), nil, 0, room)
			for rest, i := n, 0; i < 5; i++ {
				b.do(all[rest%len(all)])
				rest /= len(all)
			}
		}
	}
}

// TestAllStates: all states that a flow comes to while these are fed, at whatever point; of each state every work is picked.
func TestAllStates(t *testing.T) {
	for _, room := range []int{1, 2} {
		for _, l := range [][]done{{fed0, fed1}, {fed0, fedBar}, {fedBar, fed1}, {fed1, fedBar, fed0}} {
			for _, j := range []api.Job{shortest(1), of18(1), of18(2), jobOf(1, "s source", "m map s : -val", "u union m s", "t sink u")} {
				if states := explored(t, j, room, l); states < 20 {
					t.Errorf("%s\n%d states", told(j), states)
				}
			}
		}
	}
}

// explored goes to all states, and tells how many there are. A state is how much was fed, and how many times each work has gone on.
func explored(t *testing.T, j api.Job, room int, l []done) int {
	t.Helper()
	seen := map[string]bool{}
	for open := [][]done{nil}; len(open) > 0; open = open[1:] {
		b, went := gone(t, j, room, open[0])
		choices := slices.Clone(l[went[0]:min(int(went[0])+1, len(l))])
		for i := range b.f.Works() {
			choices = append(choices, done(i))
		}
		for _, x := range choices {
			way := append(slices.Clone(open[0]), x)
			if _, went := gone(t, j, room, way); !seen[string(went)] {
				seen[string(went)] = true
				open = append(open, way)
			}
		}
	}
	return len(seen)
}

// gone is a flow with which this was done, and what went.
func gone(t *testing.T, j api.Job, room int, way []done) (*both, []byte) {
	t.Helper()
	b := made(t, j, nil, 0, room)
	went := make([]byte, b.f.Works()+1)
	for _, x := range way {
		b.goes(went, x)
	}
	return b, went
}

// goes does it, and counts what went.
func (b *both) goes(went []byte, x done) {
	b.t.Helper()
	if x < 0 {
		went[0]++
	} else if b.f.Can(int(x)) {
		went[x+1]++
	}
	b.do(x)
}

// TestOrders: P20.5 and P20.6: whatever order of picks, whatever room and Par: what comes out is the ideal's, and so are the tables that are told.
func TestOrders(t *testing.T) {
	d := dice(5)
	for par := 1; par <= 4; par++ {
		for _, j := range small(par) {
			for room := 1; room <= 8; room++ {
				if room > 3 && room < 8 {
					continue
				}
				for way := range 7 {
					b := made(t, j, d.states(j), int64(way), room)
					feedSome(b, &d, 14)
					b.through(b.picks(&d)[way])
				}
			}
		}
	}
}

// TestSameOut: two flows of one job and the same input, but of another Par and room, and picked in another order, come to the same.
func TestSameOut(t *testing.T) {
	for at := range small(1) {
		var want [2][]api.Rec
		for par := 1; par <= 4; par++ {
			for _, room := range []int{1, 2, 8} {
				b := made(t, small(par)[at], nil, 0, room)
				for i := range int64(12) {
					b.feed(int(i)%2, i*5%7, i%4)
				}
				got := b.came()
				if par == 1 && room == 1 {
					want = got
				}
				if len(want[0])+len(want[1]) == 0 || !slices.Equal(got[0], want[0]) || !slices.Equal(got[1], want[1]) {
					t.Errorf("%s\nroom %d: %v, want %v", told(b.w.j), room, got, want)
				}
			}
		}
	}
}

// TestBetween: records and bars are fed while works go on.
func TestBetween(t *testing.T) {
	d := dice(606)
	for range 120 {
		j := d.grown()
		b := made(t, j, d.states(j), int64(d.below(1000)), 1+d.below(8))
		for range 6 {
			next := b.picks(&d)[d.below(7)]
			feedSome(b, &d, 5)
			for range d.below(8 * b.f.Works()) {
				b.turn(next())
			}
		}
		b.through(b.picks(&d)[d.below(7)])
	}
}

// TestWhatever: R1: whatever is asked, the call ends, and it does not panic.
func TestWhatever(t *testing.T) {
	d := dice(1)
	for range 150 {
		j := d.grown()
		first := d.number() & greatest
		b := made(t, j, d.states(j), first, 1+d.below(8))
		for range 200 {
			switch d.below(12) {
			case 0:
				key, val := d.record()
				if part := int(d.number()); part == 0 || part == 1 {
					b.feed(part, key, val)
				} else if e := b.f.Feed(part, key, val); e != api.ErrArg {
					t.Fatalf("Feed(%d): error %d", part, e)
				}
			case 1:
				if n := d.number(); n > 0 {
					b.bar(n)
				} else if e := b.f.Bar(n); e != api.ErrArg {
					t.Fatalf("Bar(%d): error %d", n, e)
				}
			case 2:
				b.turn(int(d.number()))
			default:
				b.turn(d.below(b.f.Works()))
			}
		}
		b.through(b.thrown(&d))
	}
}

// TestLong: many records and bars, through a job of every kind of node; what was taken is not kept.
func TestLong(t *testing.T) {
	d := dice(3)
	j := small(3)[6]
	b := made(t, j, nil, greatest-700, 2)
	for range 1500 {
		key, val := d.record()
		b.feed(d.below(2), key, val)
		if d.below(40) == 0 {
			b.bar(1 + int64(d.below(9)))
		}
		for range d.below(2 * b.f.Works()) {
			b.turn(d.below(b.f.Works()))
		}
	}
	b.through(b.stubborn(1))
	if b.f.Next() >= 0 || len(b.bars) < 10 || !strings.Contains(told(j), "window") {
		t.Error(b.f.Next(), len(b.bars))
	}
}
