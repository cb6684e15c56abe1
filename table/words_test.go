package table_test

import (
	"encoding/binary"
	"math"
	"slices"
	"testing"

	"changeling/api"
	"changeling/table"
)

// entry is a key of a table, and its cell.
type entry struct {
	key, acc int64
	l        []int64
}

// words are a table as the chapter's words tell it: its keys with their cells.
type words map[int64]entry

// rest is the group of a key: the lowest bits of a number are its rest, also below 0.
func rest(key int64) int { return int(uint64(key) & 7) }

// wordsOf has these entries.
func wordsOf(l ...entry) words {
	w := words{}
	for _, e := range l {
		w[e.key] = e
	}
	return w
}

// many is how many keys of a group there are.
func (w words) many(of int) int {
	many := 0
	for key := range w {
		if rest(key) == of {
			many++
		}
	}
	return many
}

// keys are those that there are, in order: group by group the least one that is left.
func (w words) keys() []int64 {
	var l []int64
	for of := range 8 {
		var some []int64
		for key := range w {
			if rest(key) == of {
				some = append(some, key)
			}
		}
		slices.Sort(some)
		l = append(l, some...)
	}
	return l
}

func (w words) put(key int64, c api.Cell) api.Errno {
	_, is := w[key]
	switch {
	case len(c.L) > 16:
		return api.ErrArg
	case !is && w.many(rest(key)) >= 40:
		return api.ErrFull
	}
	w[key] = entry{key, c.Acc, slices.Clone(c.L)}
	return api.OK
}

func (w words) drop(key int64) bool {
	_, is := w[key]
	delete(w, key)
	return is
}

// of has the keys of these groups.
func (w words) of(groups ...int) words {
	some := words{}
	for key, e := range w {
		for _, of := range groups {
			if of == rest(key) {
				some[key] = e
			}
		}
	}
	return some
}

func (w words) join(u words) api.Errno {
	both := words{}
	for key, e := range w {
		both[key] = e
	}
	for key, e := range u {
		if _, is := both[key]; is {
			return api.ErrArg
		}
		both[key] = e
	}
	for of := range 8 {
		if both.many(of) > 40 {
			return api.ErrFull
		}
	}
	for key, e := range u {
		w[key] = e
	}
	return api.OK
}

// bytes are the table's, by the library's own zigzag numbers, which have the form of chapter 2.
func (w words) bytes() string {
	s := row(int64(len(w)))
	for _, key := range w.keys() {
		e := w[key]
		s += row(key, e.acc, int64(len(e.l))) + row(e.l...)
	}
	return s
}

// row are the bytes of numbers.
func row(l ...int64) string {
	var b []byte
	for _, n := range l {
		b = binary.AppendVarint(b, n)
	}
	return string(b)
}

// number is what s begins with, by the words of chapter 2, and what is left behind it.
func number(s string) (n int64, left string, e api.Errno) {
	n, size := binary.Varint([]byte(s))
	switch {
	case size < 0, size > 1 && s[size-1] == 0:
		return 0, "", api.ErrForm
	case size == 0 && len(s) >= 10: // a tenth byte that goes on
		return 0, "", api.ErrForm
	case size == 0:
		return 0, "", api.ErrShort
	}
	return n, s[size:], api.OK
}

// take is the table whose bytes s is, or the first error from the left.
func take(s string) (words, api.Errno) {
	w := words{}
	many, s, e := number(s)
	if e != api.OK {
		return nil, e
	}
	if many < 0 || many > 320 {
		return nil, api.ErrForm
	}
	for range many {
		key, left, e := number(s)
		if e != api.OK {
			return nil, e
		}
		acc, left, e := number(left)
		if e != api.OK {
			return nil, e
		}
		length, left, e := number(left)
		if e != api.OK {
			return nil, e
		}
		if length < 0 || length > 16 {
			return nil, api.ErrForm
		}
		c := entry{key: key, acc: acc}
		for range length {
			n := int64(0)
			if n, left, e = number(left); e != api.OK {
				return nil, e
			}
			c.l = append(c.l, n)
		}
		for other := range w { // each one ahead must have an elder group, or be below it in its own
			if rest(other) > rest(key) || rest(other) == rest(key) && other >= key {
				return nil, api.ErrForm
			}
		}
		w[key] = c
		if w.many(rest(key)) > 40 {
			return nil, api.ErrForm
		}
		s = left
	}
	if s != "" {
		return nil, api.ErrForm
	}
	return w, api.OK
}

// dice throws numbers that hang on nothing but how often it was thrown.
type dice uint64

func (d *dice) below(n int) int {
	*d = *d*6364136223846793005 + 1442695040888963407
	return int(uint64(*d) >> 33 % uint64(n))
}

// number is one of whatever length, or one of the edges.
func (d *dice) number() int64 {
	if d.below(8) == 0 {
		return []int64{0, -1, 1, 63, 64, -64, -65, math.MinInt64, math.MinInt64 + 1, math.MaxInt64, math.MaxInt64 - 1}[d.below(11)]
	}
	n := int64(d.below(1<<31))<<33 ^ int64(d.below(1<<31))<<2 ^ int64(d.below(4))
	return n >> d.below(64)
}

func (d *dice) cell(most int) api.Cell {
	c := api.Cell{Acc: d.number()}
	for range d.below(most + 1) {
		c.L = append(c.L, d.number())
	}
	return c
}

// entries are so many throws of keys, some of them near one another, with cells of rows of at most so many numbers.
func (d *dice) entries(throws, most int) []entry {
	w := words{}
	for range throws {
		key := d.number()
		if d.below(2) == 0 {
			key = int64(d.below(80)) - 40
		}
		c := d.cell(most)
		w.put(key, c)
	}
	var l []entry
	for _, key := range w.keys() {
		l = append(l, w[key])
	}
	return l
}

// tableOf is a table that these entries were put into, in this order.
func tableOf(t *testing.T, l ...entry) *table.Table {
	t.Helper()
	tb := table.New()
	for _, e := range l {
		put(t, tb, e.key, cell(e.acc, e.l...), api.OK)
	}
	return tb
}

func cell(acc int64, l ...int64) api.Cell { return api.Cell{Acc: acc, L: l} }

func sameCell(a, b api.Cell) bool { return a.Acc == b.Acc && slices.Equal(a.L, b.L) }

// put asks Put; what is handed in stays as it is.
func put(t *testing.T, tb *table.Table, key int64, c api.Cell, want api.Errno) {
	t.Helper()
	handed := cell(c.Acc, slices.Clone(c.L)...)
	if e := tb.Put(key, c); e != want {
		t.Errorf("Put(%d, %v): error %d, want %d", key, c, e, want)
	}
	if !sameCell(c, handed) {
		t.Errorf("Put(%d, %v) made that of %v", key, c, handed)
	}
}

// get asks Get of a key that is there.
func get(t *testing.T, tb *table.Table, key int64, want api.Cell) {
	t.Helper()
	if c, is := tb.Get(key); !is || !sameCell(c, want) {
		t.Errorf("Get(%d) = %v, %v, want %v", key, c, is, want)
	}
}

// lacks asks Get of keys that are not there.
func lacks(t *testing.T, tb *table.Table, keys ...int64) {
	t.Helper()
	for _, key := range keys {
		if c, is := tb.Get(key); is || c.Acc != 0 || c.L != nil {
			t.Errorf("Get(%d) = %v, %v, want none", key, c, is)
		}
	}
}

// drop asks Drop.
func drop(t *testing.T, tb *table.Table, key int64, want bool) {
	t.Helper()
	if is := tb.Drop(key); is != want {
		t.Errorf("Drop(%d) = %v", key, is)
	}
}

// keys asks Keys.
func keys(t *testing.T, tb *table.Table, want ...int64) {
	t.Helper()
	if l := tb.Keys(); !slices.Equal(l, want) {
		t.Errorf("Keys() = %d, want %d", l, want)
	}
}

// holds asks all that a table tells: it has what these words have, and nothing else.
func holds(t *testing.T, tb *table.Table, w words) {
	t.Helper()
	if tb == nil {
		t.Errorf("a nil table, want %d keys", len(w))
		return
	}
	keys(t, tb, w.keys()...)
	for key, e := range w {
		get(t, tb, key, cell(e.acc, e.l...))
		for _, other := range []int64{key - 8, key - 1, key + 1, key + 8} {
			if _, is := w[other]; !is {
				lacks(t, tb, other)
			}
		}
	}
	if s := tb.Bytes(); s != w.bytes() {
		t.Errorf("Bytes() = % x, want % x", s, w.bytes())
	}
}

// rooms asks how much room is left in each group: that, and no more. It does so of a copy that is put anew.
func rooms(t *testing.T, tb *table.Table, w words) {
	t.Helper()
	u := tb.Copy()
	for of := range 8 {
		next := int64(of) + 8_000_000
		for range 40 - w.many(of) {
			put(t, u, next, cell(next), api.OK)
			next += 8
		}
		put(t, u, next, cell(next), api.ErrFull)
	}
	if l := u.Keys(); len(l) != 320 {
		t.Errorf("%d keys in a full table", len(l))
	}
}

// taken asks Take of a table's bytes.
func taken(t *testing.T, s string, w words) {
	t.Helper()
	tb, e := table.Take(s)
	if e != api.OK || tb == nil {
		t.Errorf("Take(% .300x): error %d", s, e)
		return
	}
	holds(t, tb, w)
	if again := tb.Bytes(); again != s {
		t.Errorf("Bytes() of Take(% .300x) = % .300x", s, again)
	}
}

// wrong asks Take of bytes that are no table's.
func wrong(t *testing.T, s string, want api.Errno) {
	t.Helper()
	if tb, e := table.Take(s); tb != nil || e != want {
		t.Errorf("Take(% .300x) = %v, error %d, want error %d", s, tb, e, want)
	}
}

// byWords asks Take of whatever bytes.
func byWords(t *testing.T, s string) api.Errno {
	t.Helper()
	w, e := take(s)
	if e != api.OK {
		wrong(t, s, e)
	} else {
		taken(t, s, w)
	}
	return e
}

// groupKeys are so many keys of a group, rising from below 0 on.
func groupKeys(of, many int) []int64 {
	var l []int64
	for i := range many {
		l = append(l, int64(of+8*(i-20)))
	}
	return l
}

// full are as many keys as may be of these groups, each with its cell.
func full(groups ...int) []entry {
	var l []entry
	for _, of := range groups {
		for _, key := range groupKeys(of, 40) {
			l = append(l, entry{key: key, acc: 3 * key, l: []int64{key}})
		}
	}
	return l
}

// all are the groups.
var all = []int{0, 1, 2, 3, 4, 5, 6, 7}
