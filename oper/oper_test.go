package oper_test

import (
	"slices"
	"testing"

	"changeling/api"
	"changeling/oper"
	"changeling/table"
)

// rec tells a record as the chapter does.
func rec(pos, key, val int64) api.Rec { return api.Rec{Pos: pos, Key: key, Val: val} }

// row is a row of them.
func row(l ...api.Rec) []api.Rec { return l }

// TestExamples: the chapter's.
func TestExamples(t *testing.T) {
	does(t, node(4, "val"), nil, row(rec(1, 5, 2)), row(rec(8, 5, 2), rec(9, 5, 3)), nil)
	does(t, node(6, "acc + val"), table.New(), row(rec(1, 5, 2), rec(2, 5, 4)), row(rec(1, 5, 2), rec(2, 5, 6)), words{5: cell(6)})
	does(t, window(2), table.New(), row(rec(1, 5, 2), rec(2, 6, 1), rec(3, 5, 4)), row(rec(3, 5, 6)), words{6: cell(0, 1)})
}

// TestConstants: kinds and limits by the numbers that the document says.
func TestConstants(t *testing.T) {
	if got := [...]uint8{api.NdSource, api.NdMap, api.NdFilter, api.NdFlat, api.NdKey, api.NdReduce, api.NdWindow, api.NdUnion, api.NdSink}; got != [...]uint8{1, 2, 3, 4, 5, 6, 7, 8, 9} {
		t.Error(got)
	}
	if got := [...]int{api.MaxFlat, api.MaxWindow, api.MaxKeys, api.Groups, api.MaxPar}; got != [...]int{4, 16, 40, 8, 4} {
		t.Error(got)
	}
}

// asItIs are the kinds of which the record is as it is: three, and those that are none.
func asItIs() []uint8 {
	l := []uint8{0, 1, 8, 9}
	for kind := 10; kind < 256; kind++ {
		l = append(l, uint8(kind))
	}
	return l
}

// TestAsItIs: P17.1: the record, as it is, whatever the node has; the table as it was.
func TestAsItIs(t *testing.T) {
	in := row(rec(1, 5, 2), rec(1, 5, 2), rec(0, least, greatest), rec(greatest, -1, 0), rec(least, 0, least))
	for _, kind := range asItIs() {
		for _, x := range []api.Expr{{}, read("val + 1"), read("1 = 0"), {Op: 77}} {
			for _, most := range []int{0, 1, -1} {
				for _, w := range []words{nil, {}, {5: cell(3, 1)}, fullOf(cell(2), groups()...)} {
					n := api.Node{Kind: kind, X: x, N: most}
					does(t, n, w.table(t), in, in, w)
				}
			}
		}
	}
}

// TestMap: P17.1: the number is x; place and key are as they were.
func TestMap(t *testing.T) {
	in := row(rec(1, 5, 2), rec(4, -3, greatest), rec(2, least, 0))
	for _, c := range []struct {
		text string
		want [3]int64
	}{
		{"val + 1", [3]int64{3, least, 1}},
		{"key", [3]int64{5, -3, least}},
		{"7", [3]int64{7, 7, 7}},
		{"val * val", [3]int64{4, 1, 0}},
		{"-key", [3]int64{-5, 3, least}},
		{"acc - 1", [3]int64{-1, -1, -1}}, // nothing is kept: acc is 0
		{"val < 3", [3]int64{0, 0, 0}},    // a truth
		{"val / 0", [3]int64{0, 0, 0}},
	} {
		want := slices.Clone(in)
		for i := range want {
			want[i].Val = c.want[i]
		}
		for _, w := range []words{nil, {}, {5: cell(9, 1), -3: cell(4)}} {
			does(t, node(2, c.text), w.table(t), in, want, w)
		}
	}
}

// TestKey: P17.1: the key is x; place and number are as they were.
func TestKey(t *testing.T) {
	in := row(rec(1, 5, 2), rec(4, -3, greatest), rec(2, least, 0))
	for _, c := range []struct {
		text string
		want [3]int64
	}{
		{"val", [3]int64{2, greatest, 0}},
		{"key + val", [3]int64{7, greatest - 3, least}},
		{"key % 3", [3]int64{2, 0, -2}},
		{"0 - 1", [3]int64{-1, -1, -1}},
		{"acc", [3]int64{0, 0, 0}},
		{"key = 5", [3]int64{0, 0, 0}},
	} {
		want := slices.Clone(in)
		for i := range want {
			want[i].Key = c.want[i]
		}
		for _, w := range []words{nil, {}, {5: cell(9, 1), -3: cell(4)}} {
			does(t, node(5, c.text), w.table(t), in, want, w)
		}
	}
}

// TestFilter: P17.1: those of which x is true; none, if it is a number.
func TestFilter(t *testing.T) {
	in := row(rec(1, 5, 2), rec(9, 6, 3), rec(3, -1, 4), rec(9, 6, 3), rec(2, 0, 0))
	for text, want := range map[string][]api.Rec{
		"1 = 1":                  in,
		"1 = 2":                  nil,
		"val % 2 = 0":            row(in[0], in[2], in[4]),
		"! (val % 2 = 0)":        row(in[1], in[3]),
		"key = 6":                row(in[1], in[3]),
		"key < val":              row(in[2]),
		"key <= val":             row(in[2], in[4]),
		"acc = 0":                in,
		"acc < val":              row(in[0], in[1], in[2], in[3]),
		"1":                      nil,
		"val":                    nil,
		"if 1 = 1 then 1 else 0": nil,
	} {
		for _, w := range []words{nil, {}, {5: cell(9, 1), 0: cell(4)}} {
			does(t, node(3, text), w.table(t), in, want, w)
		}
	}
}

// TestFlat: P17.1: of x below 1, of 1, of MaxFlat, of more.
func TestFlat(t *testing.T) {
	for x, many := range map[int64]int{least: 0, least + 1: 0, -1 << 32: 0, -4: 0, -1: 0, 0: 0, 1: 1, 2: 2, 3: 3, 4: 4, 5: 4, 6: 4, 8: 4, 255: 4, 256: 4, 257: 4, 1 << 32: 4, 1<<32 + 1: 4, 1<<63 - 1: 4} {
		want := row(rec(24, x, -1), rec(25, x, 0), rec(26, x, 1), rec(27, x, 2))[:many]
		does(t, node(4, "key"), nil, row(rec(3, x, -1)), want, nil)
		w := words{x: cell(2, 7)}
		does(t, node(4, "key"), w.table(t), row(rec(3, x, -1)), want, w)
	}
	does(t, node(4, "4"), nil, row(rec(0, 1, 0), rec(1, 1, 0)), row(rec(0, 1, 0), rec(1, 1, 1), rec(2, 1, 2), rec(3, 1, 3), rec(8, 1, 0), rec(9, 1, 1), rec(10, 1, 2), rec(11, 1, 3)), nil)
	does(t, node(4, "acc + 2"), words{5: cell(9)}.table(t), row(rec(-1, 5, 0)), row(rec(-8, 5, 0), rec(-7, 5, 1)), words{5: cell(9)})
	for _, text := range []string{"1 = 1", "1 = 2", "0", "0 - 3"} {
		does(t, node(4, text), nil, row(rec(1, 5, 2), rec(2, 5, 3)), nil, nil)
	}
}

// TestFlatOver: P17.1: places and numbers that go beyond 2^64, by hand.
func TestFlatOver(t *testing.T) {
	for pos, first := range map[int64]int64{0: 0, -1: -8, 1: 8, 1<<60 - 1: greatest - 7, 1 << 60: least, 1<<60 + 1: least + 8, 1 << 61: 0, 1<<61 + 3: 24, -1 << 60: least, -1<<60 - 1: greatest - 7, least: 0, least + 1: 8, greatest: -8, greatest - 1: -16} {
		for val, next := range map[int64]int64{0: 1, -1: 0, greatest: least, least: least + 1} {
			does(t, node(4, "2"), nil, row(rec(pos, -2, val)), row(rec(first, -2, val), rec(first+1, -2, next)), nil)
		}
	}
	does(t, node(4, "9"), nil, row(rec(-1, 0, greatest-1)), row(rec(-8, 0, greatest-1), rec(-7, 0, greatest), rec(-6, 0, least), rec(-5, 0, least+1)), nil)
}

// TestReduce: P17.1: keys that have no cell, a cell, one with a row.
func TestReduce(t *testing.T) {
	sum := node(6, "acc + val")
	does(t, sum, table.New(), row(rec(1, 0, 0)), row(rec(1, 0, 0)), words{0: cell(0)})
	does(t, sum, table.New(), row(rec(7, 5, 2), rec(3, 6, 1), rec(3, 5, 4), rec(9, 6, -1), rec(0, 5, 8)),
		row(rec(7, 5, 2), rec(3, 6, 1), rec(3, 5, 6), rec(9, 6, 0), rec(0, 5, 14)), words{5: cell(14), 6: cell(0)})
	w := words{5: cell(10), 6: cell(-3, 1, 2), 13: cell(1, 8)}
	does(t, sum, w.table(t), row(rec(1, 5, 2), rec(2, 6, 4), rec(3, 7, 1)), row(rec(1, 5, 12), rec(2, 6, 1), rec(3, 7, 1)), words{5: cell(12), 6: cell(1), 7: cell(1), 13: cell(1, 8)})
	w = words{-1: cell(greatest, make([]int64, 16)...), least: cell(least)}
	does(t, sum, w.table(t), row(rec(1, -1, 1), rec(2, least, -1), rec(3, greatest, least), rec(4, greatest, least)),
		row(rec(1, -1, least), rec(2, least, greatest), rec(3, greatest, least), rec(4, greatest, 0)), words{-1: cell(least), least: cell(greatest), greatest: cell(0)})
	does(t, node(6, "if acc < val then val else acc"), table.New(), row(rec(1, 5, 2), rec(2, 5, 1), rec(3, 5, -1), rec(4, 8, -1), rec(5, 5, 3)),
		row(rec(1, 5, 2), rec(2, 5, 2), rec(3, 5, 2), rec(4, 8, 0), rec(5, 5, 3)), words{5: cell(3), 8: cell(0)})
	does(t, node(6, "acc * 2 + key"), words{3: cell(1)}.table(t), row(rec(1, 3, 9), rec(1, 3, 9), rec(1, 3, 9)), row(rec(1, 3, 5), rec(1, 3, 13), rec(1, 3, 29)), words{3: cell(29)})
	does(t, node(6, "acc < val"), words{3: cell(8, 1)}.table(t), row(rec(1, 3, 9), rec(2, 4, 9)), row(rec(1, 3, 0), rec(2, 4, 0)), words{3: cell(0), 4: cell(0)}) // a truth
	does(t, node(6, "4"), words{3: cell(8, 1)}.table(t), row(rec(1, 3, 9)), row(rec(1, 3, 4)), words{3: cell(4)})
}

// TestReduceFull: P17.1: a table that is full for a key: no record, and nothing is kept; a nil one is as a full one.
func TestReduceFull(t *testing.T) {
	sum := node(6, "acc + val")
	for _, of := range groups() {
		key := int64(of)
		w := fullOf(cell(7, 1), of)
		v := w.copied()
		v[key], v[key+801] = cell(9), cell(8)
		does(t, sum, w.table(t), row(rec(1, key+800, 1), rec(2, key, 2), rec(3, key+801, 3), rec(4, key-808, 4), rec(5, key+801, 5)),
			row(rec(2, key, 9), rec(3, key+801, 3), rec(5, key+801, 8)), v)
	}
	var in []api.Rec
	for i := range int64(60) { // forty of a group come in, and stay
		in = append(in, rec(i, 8*i+3, 1), rec(i, 8*i+3, 1))
	}
	v := words{}
	for i := range int64(40) {
		v[8*i+3] = cell(2)
	}
	want := slices.Clone(in[:80])
	for i := range want {
		want[i].Val = int64(i%2 + 1)
	}
	does(t, sum, table.New(), in, want, v)
	does(t, sum, nil, in, nil, nil)
	does(t, sum, nil, row(rec(1, 0, 0)), nil, nil)
}

// TestWindow: P17.1: each N that may be: just the N-th one makes a record, the sum, at its own place.
func TestWindow(t *testing.T) {
	for most := 1; most <= 16; most++ {
		var in, want []api.Rec
		for i := range 3 * most {
			in = append(in, rec(int64(100-i), 5, int64(1)<<i), rec(int64(i), 6, -1))
			if i%most == most-1 {
				sum := int64(1)<<(i+1) - int64(1)<<(i+1-most)
				want = append(want, rec(int64(100-i), 5, sum), rec(int64(i), 6, int64(-most)))
			}
		}
		does(t, window(most), table.New(), in, want, words{})
		if most > 1 {
			in = append(in, rec(0, 6, 77))
			does(t, window(most), table.New(), in, want, words{6: cell(0, 77)})
		}
		does(t, window(most), table.New(), in[:2*most-2], nil, held(in[:2*most-2]))
	}
}

// held are the words of a table of the numbers of these records, in their order.
func held(l []api.Rec) words {
	w := words{}
	for _, r := range l {
		w[r.Key] = cell(0, append(w[r.Key].L, r.Val)...)
	}
	return w
}

// TestWindowNone: P17.1: N of 0 and below: each record makes one, with what was kept.
func TestWindowNone(t *testing.T) {
	for _, most := range []int{1, 0, -1, -16, least, least + 1} {
		does(t, window(most), table.New(), row(rec(1, 5, 2), rec(2, 5, 3), rec(3, 6, 4)), row(rec(1, 5, 2), rec(2, 5, 3), rec(3, 6, 4)), words{})
		w := words{5: cell(3, 10, 20), 6: cell(1), 7: cell(4, 1)}
		does(t, window(most), w.table(t), row(rec(1, 5, 2), rec(2, 5, 3), rec(3, 6, 4)), row(rec(1, 5, 32), rec(2, 5, 3), rec(3, 6, 4)), words{7: cell(4, 1)})
	}
}

// TestWindowLong: P17.1: cells that have as many numbers as N already, and more; N that is greater than an L may be.
func TestWindowLong(t *testing.T) {
	for most := -1; most <= 20; most++ {
		for length := range 17 {
			l := make([]int64, length)
			sum := int64(1000)
			for i := range l {
				l[i] = int64(i + 1)
				sum += l[i]
			}
			w := words{5: cell(7, l...), 13: cell(1, 4)}
			in := row(rec(3, 5, 1000))
			switch {
			case length+1 >= most:
				does(t, window(most), w.table(t), in, row(rec(3, 5, sum)), words{13: cell(1, 4)})
			case length < 16:
				does(t, window(most), w.table(t), in, nil, words{5: cell(7, append(slices.Clone(l), 1000)...), 13: cell(1, 4)})
			default: // there is no room in the row
				does(t, window(most), w.table(t), in, nil, w)
			}
		}
	}
	in := make([]api.Rec, 40)
	for i := range in {
		in[i] = rec(int64(i), 1, 1)
	}
	does(t, window(17), table.New(), in, row(rec(16, 1, 17), rec(33, 1, 17)), words{1: cell(0, 1, 1, 1, 1, 1, 1)})
	for _, most := range []int{18, 19, 255, 256, 1 << 16, 1 << 32, 1<<32 + 1, greatest} {
		does(t, window(most), table.New(), in, nil, words{1: cell(0, 1, 1, 1, 1, 1, 1, 1, 1, 1, 1, 1, 1, 1, 1, 1, 1)})
	}
}

// TestWindowAcc: P17.1: the Acc that was told of a cell stays as long as that.
func TestWindowAcc(t *testing.T) {
	for _, acc := range edges() {
		w := words{5: cell(acc), 6: cell(acc, 4, 4), 7: cell(acc, 4)}
		does(t, window(3), w.table(t), row(rec(1, 5, 1), rec(2, 6, 1), rec(3, 5, 2)), row(rec(2, 6, 9)), words{5: cell(acc, 1, 2), 7: cell(acc, 4)})
		does(t, window(3), w.table(t), row(rec(1, 6, 1), rec(2, 6, 1)), row(rec(1, 6, 9)), words{5: cell(acc), 6: cell(0, 1), 7: cell(acc, 4)})
	}
}

// TestWindowFull: P17.1: a table that is full for a key, also where the window would be full at once; a nil one is as a full one.
func TestWindowFull(t *testing.T) {
	for _, of := range groups() {
		key := int64(of)
		for _, most := range []int{least, -1, 0, 1, 2, 3, 16, 17, greatest} {
			w := fullOf(cell(0, 5), of)
			does(t, window(most), w.table(t), row(rec(1, key+800, 1), rec(1, key+800, 1), rec(1, key-1608, 1)), nil, w)
			does(t, window(most), nil, row(rec(1, key, 1), rec(2, key, 1), rec(3, key+1, 1)), nil, nil)
		}
		w := fullOf(cell(0, 5), of) // of the key that goes there is room
		v := w.copied()
		delete(v, key)
		v[key+800] = cell(0, 3)
		does(t, window(2), w.table(t), row(rec(1, key+800, 1), rec(2, key, 2), rec(3, key+800, 3), rec(4, key+808, 4)), row(rec(2, key, 7)), v)
		w = fullOf(cell(0), of) // of a window of one nothing stays
		v = w.copied()
		delete(v, key)
		does(t, window(1), w.table(t), row(rec(1, key+800, 1), rec(2, key, 2), rec(3, key+800, 3), rec(4, key+808, 4)), row(rec(2, key, 2), rec(3, key+800, 3), rec(4, key+808, 4)), v)
	}
}

// TestWindowOver: P17.1: sums that go beyond 2^64.
func TestWindowOver(t *testing.T) {
	for _, c := range []struct{ a, b, sum int64 }{{greatest, 1, least}, {least, -1, greatest}, {least, least, 0}, {greatest, greatest, -2}, {greatest, least, -1}, {-1, 1, 0}, {1 << 62, 1 << 62, least}} {
		does(t, window(2), table.New(), row(rec(least, -1, c.a), rec(greatest, -1, c.b)), row(rec(greatest, -1, c.sum)), words{})
		does(t, window(2), table.New(), row(rec(0, greatest, c.b), rec(-1, greatest, c.a)), row(rec(-1, greatest, c.sum)), words{})
	}
}

// TestNone: P17.1: no records: none come, and the table stays.
func TestNone(t *testing.T) {
	for kind := range 256 {
		for _, x := range []api.Expr{{}, read("acc + 1"), read("1 = 1")} {
			for _, w := range []words{nil, {}, {5: cell(1, 2), 6: cell(3)}, fullOf(cell(1, 1), groups()...)} {
				n := api.Node{Kind: uint8(kind), X: x, N: 1}
				for _, in := range [][]api.Rec{nil, {}} {
					does(t, n, w.table(t), in, nil, w)
					if got := oper.Do(n, w.table(t), in); len(got) != 0 {
						t.Error(got)
					}
				}
			}
		}
	}
}

// TestEdges: P17.1: places, keys and numbers at the edges, of each kind, with each text.
func TestEdges(t *testing.T) {
	var in []api.Rec
	for i, pos := range edges() {
		for j, key := range edges() {
			in = append(in, rec(pos, key, edges()[(i+3*j)%len(edges())]), rec(pos, key, key))
		}
	}
	for kind := range uint8(11) {
		for _, text := range texts() {
			n := node(kind, text)
			n.N = 2 + len(text)%3
			byWords(t, n, nil, in[:40])
			byWords(t, n, words{}, in)
		}
	}
}

// TestByWords: P17.1: long rows of whatever records of few keys and of many, over whatever tables, with each kind and text.
func TestByWords(t *testing.T) {
	d := dice(17)
	many := map[uint8]int{}
	for range 5 {
		for kind := range uint8(11) {
			for _, text := range texts() {
				for _, keys := range []int{1, 5, 60, 700} {
					n := node(kind, text)
					n.N = d.below(22) - 2
					in := d.records(d.below(60), keys)
					w := d.words(d.below(20)*d.below(40), keys)
					many[kind] += len(byWords(t, n, w, in))
					byWords(t, n, words{}, in)
					byWords(t, n, nil, in)
				}
			}
		}
	}
	for kind := range uint8(11) {
		if many[kind] < 1000 {
			t.Errorf("kind %d: %d records came", kind, many[kind])
		}
	}
}

// TestFullByWords: P17.1: tables whose groups are full, or all but.
func TestFullByWords(t *testing.T) {
	d := dice(5)
	for round := range 200 {
		w := words{}
		for _, of := range groups() {
			for i := range 36 + d.below(5) {
				w[int64(of+8*(i-20))] = api.Cell{L: make([]int64, d.below(3))}
			}
		}
		in := d.records(200, 500)
		n := window(1 + round%4)
		if round%2 == 0 {
			n = node(6, "acc + val")
		}
		byWords(t, n, w, in)
	}
}

// TestStrange: P17.1, R1: expressions that come to nothing are as 0, or false.
func TestStrange(t *testing.T) {
	in := row(rec(1, 5, 2), rec(2, 5, 3), rec(3, -1, greatest))
	for _, x := range strange() {
		n := func(kind uint8) api.Node { return api.Node{Kind: kind, X: x} }
		w := words{5: cell(7, 1)}
		does(t, n(2), w.table(t), in, row(rec(1, 5, 0), rec(2, 5, 0), rec(3, -1, 0)), w)
		does(t, n(5), w.table(t), in, row(rec(1, 0, 2), rec(2, 0, 3), rec(3, 0, greatest)), w)
		does(t, n(3), w.table(t), in, nil, w)
		does(t, n(4), w.table(t), in, nil, w)
		does(t, n(6), w.table(t), in, row(rec(1, 5, 0), rec(2, 5, 0), rec(3, -1, 0)), words{5: cell(0), -1: cell(0)})
		does(t, n(6), nil, in, nil, nil)
		for _, kind := range asItIs() {
			does(t, n(kind), w.table(t), in, in, w)
		}
		does(t, api.Node{Kind: 7, X: x, N: 2}, w.table(t), in, row(rec(1, 5, 3)), words{5: cell(0, 3), -1: cell(0, greatest)})
	}
}

// TestWhatever: R1: whatever nodes, expressions, records and tables: the call ends, and tells what the words tell.
func TestWhatever(t *testing.T) {
	d := dice(23)
	for range 3000 {
		n := api.Node{Kind: uint8(d.below(12)), N: int(d.number()), In: []int{int(d.number())}}
		if d.below(20) == 0 {
			n.Kind = uint8(d.below(256))
		}
		if d.below(3) == 0 {
			n.X = strange()[d.below(len(strange()))]
		} else {
			n.X = read(texts()[d.below(len(texts()))])
		}
		w := d.words(d.below(300), 1+d.below(400))
		byWords(t, n, w, d.records(d.below(12), 1+d.below(400)))
	}
}

// TestManyRecords: R1: a long row.
func TestManyRecords(t *testing.T) {
	in := make([]api.Rec, 20000)
	for i := range in {
		in[i] = rec(int64(i), int64(i%400), 1)
	}
	if got := oper.Do(node(4, "val + 3"), nil, in); len(got) != 80000 || got[79999] != rec(8*19999+3, 19999%400, 4) {
		t.Error(len(got))
	}
	if got := oper.Do(node(6, "acc + val"), table.New(), in); len(got) != 16000 || got[15999] != rec(19919, 319, 50) {
		t.Error(len(got), got[len(got)-1])
	}
	if got := oper.Do(window(16), table.New(), in); len(got) != 960 {
		t.Error(len(got))
	}
}

// scribble writes into a row, and behind its end.
func scribble(l []api.Rec) {
	l = l[:cap(l)]
	for i := range l {
		l[i] = rec(-77, -77, -77)
	}
}

// TestApart: P17.1, R3: what comes out is nobody else's: it may be changed, and so may what was handed in.
func TestApart(t *testing.T) {
	for kind := range uint8(11) {
		n := node(kind, "val + acc + 1")
		if kind == 3 {
			n.X = read("val < 100")
		}
		n.N = 2
		in := row(rec(1, 5, 2), rec(2, 5, 3), rec(3, 6, 1), rec(4, 6, 2), rec(5, 7, 1))
		before := slices.Clone(in)
		tb, w := words{7: cell(1, 3), 8: cell(2, 4)}.table(t), words{7: cell(1, 3), 8: cell(2, 4)}
		var want []api.Rec
		for _, r := range in {
			want = append(want, w.made(n, r)...)
		}
		a := oper.Do(n, tb, in)
		b := oper.Do(n, words{7: cell(1, 3), 8: cell(2, 4)}.table(t), in)
		scribble(a)
		if !slices.Equal(in, before) || !slices.Equal(b, want) {
			t.Errorf("kind %d: %v, %v", kind, in, b)
		}
		keeps(t, tb, w)
		scribble(in)
		if !slices.Equal(b, want) {
			t.Errorf("kind %d: %v", kind, b)
		}
		keeps(t, tb, w)
	}
}
