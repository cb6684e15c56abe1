package pipe_test

import (
	"encoding/binary"
	"math"
	"slices"
	"strings"
	"testing"

	"changeling/api"
	"changeling/pipe"
)

const (
	least    = math.MinInt64
	greatest = math.MaxInt64
)

// msg is a message with records.
func msg(seq int64, l ...api.Rec) api.Msg { return api.Msg{Seq: seq, L: l} }

// bar is a message of a bar.
func bar(seq, n int64) api.Msg { return api.Msg{Seq: seq, Bar: n} }

func rec(pos, key, val int64) api.Rec { return api.Rec{Pos: pos, Key: key, Val: val} }

// placed are records of these places, no two of which are alike.
func placed(places ...int64) []api.Rec {
	var l []api.Rec
	for i, pos := range places {
		l = append(l, rec(pos, int64(100-i), int64(i)))
	}
	return l
}

// copied shares nothing with m.
func copied(m api.Msg) api.Msg { return api.Msg{Seq: m.Seq, Bar: m.Bar, L: slices.Clone(m.L)} }

func sameMsg(a, b api.Msg) bool { return a.Seq == b.Seq && a.Bar == b.Bar && slices.Equal(a.L, b.L) }

// short is a message with no more of its records than a test's line has room for.
func short(m api.Msg) api.Msg {
	m.L = m.L[:min(len(m.L), 20)]
	return m
}

// may: whether m may be, by the chapter's words: each place is below all that stand behind it.
func may(m api.Msg) bool {
	if m.Seq < 0 || m.Bar < 0 {
		return false
	}
	if m.Bar != 0 && len(m.L) != 0 {
		return false
	}
	highest := []int64{}
	for _, r := range m.L {
		if len(highest) == 1 && !(highest[0] < r.Pos) {
			return false
		}
		highest = []int64{r.Pos}
	}
	return true
}

// words are a pipe as the chapter's words tell it: a row, and how many it has room for.
type words struct {
	room int
	row  []api.Msg
}

func (w *words) put(m api.Msg) api.Errno {
	if !may(m) {
		return api.ErrArg
	}
	if len(w.row) == w.room {
		return api.ErrFull
	}
	w.row = append(w.row, copied(m))
	return api.OK
}

func (w *words) head() (api.Msg, api.Errno) {
	if len(w.row) == 0 {
		return api.Msg{}, api.ErrNone
	}
	return w.row[0], api.OK
}

func (w *words) take() (api.Msg, api.Errno) {
	m, e := w.head()
	if e == api.OK {
		w.row = w.row[1:]
	}
	return m, e
}

// row are the bytes of numbers, by the library's own zigzag numbers, which have the form of chapter 2.
func row(l ...int64) string {
	var b []byte
	for _, n := range l {
		b = binary.AppendVarint(b, n)
	}
	return string(b)
}

// number is what s begins with, by the words of chapter 2, and what is left behind it.
func number(s string) (n int64, left string, is bool) {
	n, size := binary.Varint([]byte(s[:min(len(s), 12)])) // a number has ten bytes at most
	if size <= 0 || size > 1 && s[size-1] == 0 {
		return 0, "", false
	}
	return n, s[size:], true
}

// bytesOf are a message's, by the chapter's words.
func bytesOf(m api.Msg) string {
	l := []string{row(m.Seq), row(m.Bar), row(int64(len(m.L)))}
	for _, r := range m.L {
		l = append(l, row(r.Pos), row(r.Key), row(r.Val))
	}
	return strings.Join(l, "")
}

// readOf is the message that may be whose bytes s is, by the chapter's words.
func readOf(s string) (api.Msg, bool) {
	m, many := api.Msg{}, int64(0)
	var is bool
	for _, to := range []*int64{&m.Seq, &m.Bar, &many} {
		if *to, s, is = number(s); !is {
			return api.Msg{}, false
		}
	}
	for ; many > 0; many-- {
		r := api.Rec{}
		for _, to := range []*int64{&r.Pos, &r.Key, &r.Val} {
			if *to, s, is = number(s); !is {
				return api.Msg{}, false
			}
		}
		m.L = append(m.L, r)
	}
	return m, many == 0 && s == "" && may(m)
}

// made is a pipe of a room that may be.
func made(t *testing.T, room int) (*pipe.Pipe, *words) {
	t.Helper()
	p, e := pipe.New(room)
	if e != api.OK || p == nil {
		t.Fatalf("New(%d) = %v, error %d", room, p, e)
	}
	return p, &words{room: room}
}

// put asks Put; what is handed in stays as it is.
func put(t *testing.T, p *pipe.Pipe, m api.Msg, want api.Errno) {
	t.Helper()
	handed := copied(m)
	if e := p.Put(m); e != want {
		t.Errorf("Put(%v): error %d, want %d", short(m), e, want)
	}
	if !sameMsg(m, handed) {
		t.Errorf("Put(%v) made that of %v", short(handed), short(m))
	}
}

// told holds what Head or Take answered against what it is to be; beside an error all is zero.
func told(t *testing.T, call string, m api.Msg, e api.Errno, want api.Msg, wantE api.Errno) {
	t.Helper()
	if e != wantE || !sameMsg(m, want) {
		t.Errorf("%s() = %v, error %d, want %v, error %d", call, short(m), e, short(want), wantE)
	}
	if e != api.OK && m.L != nil {
		t.Errorf("%s() = %v beside the error %d", call, m, e)
	}
}

func head(t *testing.T, p *pipe.Pipe, want api.Msg, wantE api.Errno) {
	t.Helper()
	m, e := p.Head()
	told(t, "Head", m, e, want, wantE)
}

func take(t *testing.T, p *pipe.Pipe, want api.Msg, wantE api.Errno) {
	t.Helper()
	m, e := p.Take()
	told(t, "Take", m, e, want, wantE)
}

// counts asks Len and Room.
func counts(t *testing.T, p *pipe.Pipe, many, room int) {
	t.Helper()
	if got := [...]int{p.Len(), p.Room()}; got != [...]int{many, room} {
		t.Errorf("Len() and Room() = %d, want %d and %d", got, many, room)
	}
}

// looks asks what changes nothing, as the words tell it.
func looks(t *testing.T, p *pipe.Pipe, w *words) {
	t.Helper()
	m, e := w.head()
	counts(t, p, len(w.row), w.room-len(w.row))
	head(t, p, m, e)
	counts(t, p, len(w.row), w.room-len(w.row))
	head(t, p, m, e)
	counts(t, p, len(w.row), w.room-len(w.row))
}

// drains takes all out, as the words tell it.
func drains(t *testing.T, p *pipe.Pipe, w *words) {
	t.Helper()
	for {
		looks(t, p, w)
		m, e := w.take()
		take(t, p, m, e)
		if e != api.OK {
			break
		}
	}
	looks(t, p, w)
}

// holds asks for all messages that there are, and puts them anew.
func holds(t *testing.T, p *pipe.Pipe, w *words) {
	t.Helper()
	all := slices.Clone(w.row)
	drains(t, p, w)
	for _, m := range all {
		put(t, p, m, w.put(m))
	}
	looks(t, p, w)
}

// filled is a pipe with these messages.
func filled(t *testing.T, room int, l ...api.Msg) (*pipe.Pipe, *words) {
	t.Helper()
	p, w := made(t, room)
	for _, m := range l {
		put(t, p, m, api.OK)
		w.put(m)
	}
	return p, w
}

// some are so many messages that may be, no two of which are alike: with no record, with some, of a bar.
func some(many int) []api.Msg {
	var l []api.Msg
	for i := range int64(many) {
		switch i % 3 {
		case 0:
			l = append(l, msg(i+1, rec(1, 2*i, 3*i), rec(2, i, -i)))
		case 1:
			l = append(l, msg(i+1))
		case 2:
			l = append(l, bar(i+1, i))
		}
	}
	return l
}

// ring is a message of the number seq, of each kind in turn.
func ring(seq int64) api.Msg {
	switch seq % 4 {
	case 0:
		return bar(seq, seq+1)
	case 1:
		return msg(seq, rec(-seq, seq, least), rec(seq, -seq, greatest))
	case 2:
		return msg(seq)
	}
	return msg(seq, rec(0, seq, seq))
}

// noMsgs are messages that may not be.
var noMsgs = []api.Msg{
	msg(-1), msg(least), msg(-2, rec(1, 2, 3)), msg(least+1, placed(1, 2)...), msg(-greatest),
	bar(0, -1), bar(1, least), bar(greatest, least+1), bar(5, -greatest), bar(-1, -1), bar(-1, 1), bar(least, greatest), bar(least, least),
	{Bar: 1, L: placed(1)}, {Seq: 1, Bar: 1, L: placed(0)}, {Seq: 4, Bar: greatest, L: placed(1, 2, 3)}, {Seq: 4, Bar: 2, L: []api.Rec{{}}}, {Seq: 1, Bar: -1, L: placed(1)}, {Seq: -1, Bar: 1, L: placed(2, 1)},
	msg(1, placed(1, 1)...), msg(1, placed(2, 1)...), msg(0, placed(0, 0)...), msg(0, placed(0, -1)...), msg(7, placed(-1, -1)...), msg(7, placed(-1, -2)...),
	msg(1, placed(least, least)...), msg(1, placed(greatest, greatest)...), msg(1, placed(greatest, least)...), msg(1, placed(0, least)...), msg(1, placed(greatest, greatest-1)...),
	msg(1, placed(1, 2, 2)...), msg(1, placed(1, 1, 2)...), msg(1, placed(1, 3, 2)...), msg(1, placed(2, 1, 3)...), msg(1, placed(1, 2, 1)...), msg(1, placed(3, 2, 1)...), msg(1, placed(1, 2, 3, 4, 5, 6, 7, 7)...),
}

// dice throws numbers that hang on nothing but how often it was thrown.
type dice uint64

func (d *dice) below(n int) int {
	*d = *d*6364136223846793005 + 1442695040888963407
	return int(uint64(*d) >> 33 % uint64(n))
}

// number is one of whatever length, or one of the edges.
func (d *dice) number() int64 {
	if d.below(8) == 0 {
		return []int64{0, -1, 1, 63, 64, -64, -65, least, least + 1, greatest, greatest - 1}[d.below(11)]
	}
	n := int64(d.below(1<<31))<<33 ^ int64(d.below(1<<31))<<2 ^ int64(d.below(4))
	return n >> d.below(64)
}

// msg is one that may be, or nearly.
func (d *dice) msg() api.Msg {
	m := api.Msg{Seq: d.number() & greatest}
	if d.below(4) == 0 {
		m.Bar = d.number() & greatest
	}
	if m.Bar == 0 || d.below(20) == 0 {
		for range d.below(6) {
			m.L = append(m.L, rec(d.number(), d.number(), d.number()))
		}
		slices.SortFunc(m.L, func(a, b api.Rec) int {
			if a.Pos < b.Pos {
				return -1
			}
			return 1
		})
	}
	switch d.below(30) {
	case 0:
		m.Seq = d.number()
	case 1:
		m.Bar = d.number()
	case 2:
		m.L = append(m.L, rec(d.number(), 0, 0))
	}
	return m
}
