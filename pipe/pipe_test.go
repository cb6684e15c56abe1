package pipe_test

import (
	"math"
	"slices"
	"testing"

	"changeling/api"
	"changeling/pipe"
)

// TestExamples: the chapter's.
func TestExamples(t *testing.T) {
	p, _ := made(t, 1)
	put(t, p, msg(1), api.OK)
	put(t, p, msg(2), api.ErrFull)
	head(t, p, msg(1), api.OK)
	take(t, p, msg(1), api.OK)
	take(t, p, api.Msg{}, api.ErrNone)
	if s, e := pipe.Bytes(msg(1, rec(1, 2, 3))); s != "\x02\x00\x02\x02\x04\x06" || e != api.OK {
		t.Errorf("% x, error %d", s, e)
	}
}

// TestConstants: errors and limits by the numbers that the document says.
func TestConstants(t *testing.T) {
	if got := [...]api.Errno{api.OK, api.ErrNil, api.ErrArg, api.ErrNone, api.ErrFull, api.ErrForm}; got != [...]api.Errno{0, 1, 2, 4, 7, 21} {
		t.Error(got)
	}
	if api.MaxRoom != 8 {
		t.Error(api.MaxRoom)
	}
}

// mays asks May; what is handed in stays as it is.
func mays(t *testing.T, m api.Msg, want bool) {
	t.Helper()
	handed := copied(m)
	if is := pipe.May(m); is != want {
		t.Errorf("May(%v) = %v", short(m), is)
	}
	if !sameMsg(m, handed) {
		t.Errorf("May(%v) made that of %v", short(handed), short(m))
	}
}

// TestMay: P19.1: messages told by hand.
func TestMay(t *testing.T) {
	for _, m := range []api.Msg{
		{}, msg(0), msg(1), msg(greatest), msg(greatest - 1), msg(1<<32 - 1), msg(1 << 32),
		bar(0, 1), bar(1, 1), bar(0, greatest), bar(greatest, greatest), bar(greatest, 1), bar(3, 1<<32), {Seq: 3, Bar: 4, L: []api.Rec{}}, {L: []api.Rec{}},
		msg(0, rec(0, 0, 0)), msg(0, rec(1, 2, 3)), msg(0, rec(-1, -1, -1)), msg(0, rec(least, least, least)), msg(greatest, rec(greatest, greatest, greatest)),
		msg(1, placed(1, 2)...), msg(1, placed(-1, 0)...), msg(1, placed(-2, -1)...), msg(1, placed(least, greatest)...), msg(1, placed(least, least+1)...), msg(1, placed(greatest-1, greatest)...), msg(1, placed(-5, 5)...),
		msg(1, placed(1, 2, 3)...), msg(1, placed(least, -1, 0, 1, greatest)...), msg(1, placed(8, 16, 17, 24, 1<<40)...),
		msg(1, rec(1, 9, 9), rec(2, 8, 8), rec(3, 9, 7)), msg(1, rec(1, 5, 5), rec(2, 5, 5)), // keys and numbers go as they go
	} {
		mays(t, m, true)
	}
	for _, m := range noMsgs {
		mays(t, m, false)
	}
}

// TestMayByWords: P19.1: each number of some with each bar of some and each row of up to four places of some.
func TestMayByWords(t *testing.T) {
	numbers := []int64{least, least + 1, -1 << 32, -1, 0, 1, 2, 1 << 32, greatest - 1, greatest}
	places := []int64{least, -1, 0, 1, greatest}
	rows := [][]api.Rec{nil}
	for from, length := 0, 1; length <= 4; length++ {
		to := len(rows)
		for _, l := range rows[from:to] {
			for _, pos := range places {
				rows = append(rows, append(slices.Clone(l), rec(pos, -pos, 0)))
			}
		}
		from = to
	}
	if len(rows) != 1+5+25+125+625 {
		t.Error(len(rows))
	}
	many := 0
	for _, seq := range numbers {
		for _, n := range numbers {
			for _, l := range rows {
				m := api.Msg{Seq: seq, Bar: n, L: l}
				mays(t, m, may(m))
				if may(m) {
					many++
				}
			}
		}
	}
	if want := 6 * (5 + 1 + 5 + 10 + 10 + 5); many != want { // of a row that rises each place is there or not
		t.Errorf("%d may be, want %d", many, want)
	}
}

// TestMayLong: P19.1: long rows, that rise, or do so but for one place.
func TestMayLong(t *testing.T) {
	for _, length := range []int{10, 100, 257} {
		l := make([]api.Rec, length)
		for i := range l {
			l[i].Pos = 3*int64(i) - 50
		}
		mays(t, msg(1, l...), true)
		for i := range l {
			for _, by := range []int64{-greatest / 2, -6, -4, -3, 3, 4, 6, greatest / 2} {
				was := l[i]
				l[i].Pos += by
				rises := by < 0 && (i == 0 || by > -3) || by > 0 && (i == length-1 || by < 3)
				mays(t, msg(1, l...), rises)
				l[i] = was
			}
			mays(t, api.Msg{Bar: 1, L: l[:i]}, i == 0)
		}
	}
	l := make([]api.Rec, 1<<18)
	mays(t, msg(1, l...), false)
	for i := range l {
		l[i].Pos = int64(i)
	}
	mays(t, msg(1, l...), true)
	l[len(l)-1].Pos--
	mays(t, msg(1, l...), false)
}

// TestNew: P19.1: rooms that may be, and such as may not.
func TestNew(t *testing.T) {
	for room := -300; room <= 300; room++ {
		p, e := pipe.New(room)
		if is := room >= 1 && room <= 8; is != (e == api.OK) || is != (p != nil) || !is && e != api.ErrArg {
			t.Errorf("New(%d) = %v, error %d", room, p, e)
		}
	}
	for _, room := range []int{math.MinInt, math.MinInt + 1, math.MinInt + 8, math.MinInt32, -1 << 32, -1<<32 + 1, 1 << 16, 1<<16 + 1, math.MaxInt32, 1 << 32, 1<<32 + 1, 1<<32 + 8, 1 << 62, math.MaxInt - 1, math.MaxInt} {
		if p, e := pipe.New(room); p != nil || e != api.ErrArg {
			t.Errorf("New(%d) = %v, error %d", room, p, e)
		}
	}
	for room := 1; room <= 8; room++ {
		p, w := made(t, room)
		looks(t, p, w)
		drains(t, p, w)
		other, v := made(t, room) // each New is another one
		put(t, p, msg(1), w.put(msg(1)))
		holds(t, other, v)
		put(t, other, msg(2), v.put(msg(2)))
		holds(t, p, w)
		holds(t, other, v)
	}
}

// TestRooms: P19.1, P19.2: each room filled and drained, more than once; more than it has room for.
func TestRooms(t *testing.T) {
	for room := 1; room <= 8; room++ {
		p, w := made(t, room)
		for turn := range 5 {
			for i, m := range some(room) {
				m.Seq += 100 * int64(turn)
				counts(t, p, i, room-i)
				put(t, p, m, api.OK)
				w.put(m)
				looks(t, p, w)
			}
			for _, m := range some(20) {
				put(t, p, m, api.ErrFull)
			}
			for i := range room {
				counts(t, p, room-i, i)
				m, _ := w.take()
				take(t, p, m, api.OK)
				looks(t, p, w)
			}
			for range 10 {
				take(t, p, api.Msg{}, api.ErrNone)
				looks(t, p, w)
			}
		}
	}
}

// TestPutWrong: P19.1: what may not be is ErrArg, also where there is no room; nothing has changed.
func TestPutWrong(t *testing.T) {
	for room := 1; room <= 8; room++ {
		for many := range room + 1 {
			p, w := filled(t, room, some(many)...)
			for _, m := range noMsgs {
				put(t, p, m, api.ErrArg)
				looks(t, p, w)
			}
			holds(t, p, w)
			put(t, p, msg(9), w.put(msg(9)))
			put(t, p, noMsgs[0], api.ErrArg)
			drains(t, p, w)
		}
	}
}

// TestNil: R4: each call of nil, whatever is put.
func TestNil(t *testing.T) {
	var none *pipe.Pipe
	for _, m := range slices.Concat(some(9), noMsgs) {
		put(t, none, m, api.ErrNil)
		head(t, none, api.Msg{}, api.ErrNil)
		take(t, none, api.Msg{}, api.ErrNil)
		counts(t, none, 0, 0)
	}
}

// TestHead: P19.2: Head leaves the first one where it is, ahead of Take and behind it, asked as often as whoever likes.
func TestHead(t *testing.T) {
	for room := 1; room <= 8; room++ {
		for many := range room + 1 {
			for asks := range 20 {
				all := some(many)
				p, w := filled(t, room, all...)
				for len(all) > 0 {
					for range asks {
						head(t, p, all[0], api.OK)
					}
					take(t, p, all[0], api.OK)
					all = all[1:]
					w.take()
				}
				for range asks {
					head(t, p, api.Msg{}, api.ErrNone)
				}
				drains(t, p, w)
			}
		}
	}
}

// TestHeadBetween: P19.2, P19.4: Head at each place of a row of calls that fill and drain; what comes behind is the same.
func TestHeadBetween(t *testing.T) {
	for room := 1; room <= 8; room++ {
		for at := range 2*room + 1 {
			p, w := made(t, room)
			for i := range 2*room + 1 {
				if i == at {
					m, e := w.head()
					head(t, p, m, e)
				}
				if i < room {
					put(t, p, some(room)[i], w.put(some(room)[i]))
				} else if i < 2*room {
					m, e := w.take()
					take(t, p, m, e)
				}
			}
			put(t, p, msg(50), w.put(msg(50)))
			drains(t, p, w)
		}
	}
}

// step does one of five things with a pipe and with the words.
func step(t *testing.T, p *pipe.Pipe, w *words, what int, next int64) {
	t.Helper()
	switch what {
	case 0:
		put(t, p, ring(next), w.put(ring(next)))
	case 1:
		m, e := w.take()
		take(t, p, m, e)
	case 2:
		m, e := w.head()
		head(t, p, m, e)
	case 3:
		m := noMsgs[int(next)%len(noMsgs)]
		put(t, p, m, w.put(m))
	case 4:
		counts(t, p, len(w.row), w.room-len(w.row))
	}
}

// TestAllOrders: P19.1, P19.2, P19.4: all rows of five calls, at each room, begun with each number of messages.
func TestAllOrders(t *testing.T) {
	const length = 5
	rows := 1
	for range length {
		rows *= 5
	}
	for room := 1; room <= 8; room++ {
		for many := range room + 1 {
			for at := range rows {
				p, w := filled(t, room, some(many)...)
				for i, left := 0, at; i < length; i, left = i+1, left/5 {
					step(t, p, w, left%5, int64(20+i))
				}
				for len(w.row) > 0 {
					m, e := w.take()
					take(t, p, m, e)
				}
				take(t, p, api.Msg{}, api.ErrNone)
			}
		}
	}
}

// TestManyThrough: P19.2, P19.4: many messages go through, while so many others stand ahead of them.
func TestManyThrough(t *testing.T) {
	for room := 1; room <= 8; room++ {
		for many := range room {
			p, w := made(t, room)
			for seq := range int64(500) {
				put(t, p, ring(seq), w.put(ring(seq)))
				if len(w.row) > many {
					m, e := w.take()
					take(t, p, m, e)
				}
				counts(t, p, len(w.row), w.room-len(w.row))
			}
			drains(t, p, w)
		}
	}
}

// TestFirstInFirstOut: P19.4: what was taken are the messages that were put, in their order, told without the words.
func TestFirstInFirstOut(t *testing.T) {
	d := dice(19)
	for room := 1; room <= 8; room++ {
		p, _ := made(t, room)
		in, out := int64(0), int64(0)
		for range 5000 {
			switch d.below(3) {
			case 0, 1:
				e := p.Put(ring(in))
				if full := in-out == int64(room); full != (e == api.ErrFull) || !full && e != api.OK {
					t.Errorf("Put with %d of %d: error %d", in-out, room, e)
				}
				if e == api.OK {
					in++
				}
			case 2:
				for range d.below(room + 2) {
					m, e := p.Take()
					if none := in == out; none != (e == api.ErrNone) || !none && (e != api.OK || !sameMsg(m, ring(out))) {
						t.Errorf("Take with %d of %d: %v, error %d", in-out, room, m, e)
					}
					if e == api.OK {
						out++
					}
				}
			}
		}
		if out < 500 {
			t.Error(out)
		}
	}
}

// TestMixed: P19.1, P19.2, P19.4: long mixed rows of calls, with whatever messages, against the words.
func TestMixed(t *testing.T) {
	d := dice(4)
	for round := range 200 {
		p, w := made(t, 1+round%8)
		fills := 3 + round%5
		for next := range int64(400) {
			switch what := d.below(10); {
			case what < fills:
				m := d.msg()
				put(t, p, m, w.put(m))
			default:
				step(t, p, w, d.below(5), next)
			}
		}
		holds(t, p, w)
		drains(t, p, w)
	}
}

// TestPipesApart: R5: what is done to one changes no other.
func TestPipesApart(t *testing.T) {
	d := dice(7)
	var l []*pipe.Pipe
	var v []*words
	for i := range 24 {
		p, w := made(t, 1+i%8)
		l, v = append(l, p), append(v, w)
	}
	for next := range int64(20000) {
		i := d.below(len(l))
		step(t, l[i], v[i], d.below(5), next)
	}
	for i := range l {
		drains(t, l[i], v[i])
	}
}

// scribble writes into a row, and behind its end.
func scribble(l []api.Rec) {
	l = l[:cap(l)]
	for i := range l {
		l[i] = rec(-77, -78, -79)
	}
}

// grown are records of places from 1 on, with room behind them.
func grown(many, room int) []api.Rec {
	l := make([]api.Rec, many, many+room)
	for i := range l {
		l[i] = rec(int64(i+1), int64(10*i), int64(-i))
	}
	return l
}

// TestPutApart: R3: records that are written to behind Put, also behind one that was refused.
func TestPutApart(t *testing.T) {
	for room := 1; room <= 8; room++ {
		for many := range 5 {
			for spare := range 3 {
				p, w := made(t, room)
				for range room + 1 {
					l := grown(many, spare)
					m := msg(4, l...)
					put(t, p, m, w.put(m))
					scribble(l)
					looks(t, p, w)
				}
				holds(t, p, w)
			}
		}
	}
}

// TestOneRow: R3: one row of records that is put several times, and parts of it, in one pipe and in others.
func TestOneRow(t *testing.T) {
	l := grown(4, 0)
	p, w := made(t, 8)
	q, v := made(t, 8)
	for i := range 4 {
		for _, part := range [][]api.Rec{l[:i], l[i:], l} {
			if len(w.row) < 8 {
				put(t, p, msg(int64(i), part...), w.put(msg(int64(i), part...)))
			}
			if len(v.row) < 8 {
				put(t, q, msg(int64(i), part...), v.put(msg(int64(i), part...)))
			}
		}
		l[i].Val = 1000
	}
	m, _ := p.Take()
	w.take()
	scribble(m.L)
	holds(t, q, v)
	scribble(l)
	holds(t, p, w)
	holds(t, q, v)
}

// TestToldApart: R3: what Head and Take told is written to; neither the pipe changes, nor another message that was told.
func TestToldApart(t *testing.T) {
	for room := 1; room <= 8; room++ {
		for many := range 5 {
			p, w := made(t, room)
			for i := range room {
				m := msg(int64(i), grown(many, 0)...)
				put(t, p, m, w.put(m))
			}
			want := grown(many, 0)
			a, _ := p.Head()
			b, _ := p.Head()
			scribble(a.L)
			_ = append(a.L, rec(5, 5, 5))
			if !slices.Equal(b.L, want) {
				t.Errorf("another answer became %v", b.L)
			}
			looks(t, p, w)
			c, _ := p.Take()
			w.take()
			scribble(b.L)
			if !slices.Equal(c.L, want) {
				t.Errorf("what was taken became %v", c.L)
			}
			d, _ := p.Head()
			scribble(c.L)
			if room > 1 && !slices.Equal(d.L, want) {
				t.Errorf("another answer became %v", d.L)
			}
			holds(t, p, w)
		}
	}
}

// TestPutAnew: R3, P19.4: what was told is put anew, in the pipe or in another one, and written to behind that.
func TestPutAnew(t *testing.T) {
	for room := 2; room <= 8; room++ {
		p, w := made(t, room)
		q, v := made(t, room)
		for i := range room {
			m := msg(int64(i), grown(i, 0)...)
			put(t, p, m, w.put(m))
		}
		for range 3 * room {
			m, _ := p.Take()
			w.take()
			put(t, p, m, w.put(m))
			put(t, q, m, v.put(m))
			scribble(m.L)
			m, _ = p.Head()
			put(t, q, m, v.put(m))
			scribble(m.L)
			holds(t, p, w)
			holds(t, q, v)
			v.take()
			q.Take()
		}
		drains(t, p, w)
		drains(t, q, v)
	}
}

// TestLongRows: P19.1, P19.2: messages of many records, and rows that are wrong at their ends.
func TestLongRows(t *testing.T) {
	p, w := made(t, 3)
	for _, many := range []int{1 << 16, 1<<16 + 1, 1 << 10} {
		m := msg(int64(many), grown(many, 0)...)
		put(t, p, m, w.put(m))
		m = copied(m)
		m.L[many-1].Pos = m.L[many-2].Pos
		put(t, p, m, api.ErrArg)
		m.L[many-1].Pos = greatest
		m.L[0].Pos = 2
		put(t, p, m, api.ErrArg)
		m.L[0].Pos = least
		if many == 1<<16 {
			put(t, p, m, w.put(m))
		} else {
			put(t, p, m, api.ErrFull)
			take(t, p, w.row[0], api.OK)
			w.take()
		}
	}
	drains(t, p, w)
}

// TestNumbers: P19.2, P19.4: numbers of each length in messages.
func TestNumbers(t *testing.T) {
	p, w := made(t, 8)
	for bit := range 64 {
		for near := int64(-2); near <= 2; near++ {
			for _, n := range []int64{1<<bit + near, -1<<bit + near} {
				for _, m := range []api.Msg{msg(n), bar(1, n), bar(n, 1), msg(1, rec(n, n, n)), msg(n&greatest, rec(n&^3, -n, n), rec(n|3, n, -n)), bar(n&greatest, ^n&greatest)} {
					put(t, p, m, w.put(m))
				}
				drains(t, p, w)
			}
		}
	}
}
