package group_test

import (
	"math"
	"math/big"
	"slices"
	"testing"

	"changeling/api"
	"changeling/group"
)

// told: some keys, their groups, parts, and places among 1, 2, 3 and 4, reckoned by hand.
var told = []struct {
	key         int64
	group, part int
	places      [4]int
}{
	{0, 0, 0, [4]int{0, 0, 0, 0}}, {1, 1, 0, [4]int{0, 0, 0, 0}}, {2, 2, 0, [4]int{0, 0, 0, 1}}, {3, 3, 0, [4]int{0, 0, 1, 1}},
	{4, 4, 1, [4]int{0, 1, 1, 2}}, {5, 5, 1, [4]int{0, 1, 1, 2}}, {6, 6, 1, [4]int{0, 1, 2, 3}}, {7, 7, 1, [4]int{0, 1, 2, 3}},
	{8, 0, 0, [4]int{0, 0, 0, 0}}, {9, 1, 0, [4]int{0, 0, 0, 0}}, {11, 3, 0, [4]int{0, 0, 1, 1}}, {15, 7, 1, [4]int{0, 1, 2, 3}}, {16, 0, 0, [4]int{0, 0, 0, 0}},
	{63, 7, 1, [4]int{0, 1, 2, 3}}, {64, 0, 0, [4]int{0, 0, 0, 0}}, {1000, 0, 0, [4]int{0, 0, 0, 0}}, {1003, 3, 0, [4]int{0, 0, 1, 1}}, {1<<40 + 5, 5, 1, [4]int{0, 1, 1, 2}},
	{-1, 7, 1, [4]int{0, 1, 2, 3}}, {-2, 6, 1, [4]int{0, 1, 2, 3}}, {-3, 5, 1, [4]int{0, 1, 1, 2}}, {-4, 4, 1, [4]int{0, 1, 1, 2}},
	{-5, 3, 0, [4]int{0, 0, 1, 1}}, {-6, 2, 0, [4]int{0, 0, 0, 1}}, {-7, 1, 0, [4]int{0, 0, 0, 0}}, {-8, 0, 0, [4]int{0, 0, 0, 0}},
	{-9, 7, 1, [4]int{0, 1, 2, 3}}, {-12, 4, 1, [4]int{0, 1, 1, 2}}, {-16, 0, 0, [4]int{0, 0, 0, 0}}, {-1003, 5, 1, [4]int{0, 1, 1, 2}}, {-1<<40 - 5, 3, 0, [4]int{0, 0, 1, 1}},
	{math.MaxInt64, 7, 1, [4]int{0, 1, 2, 3}}, {math.MaxInt64 - 1, 6, 1, [4]int{0, 1, 2, 3}}, {math.MaxInt64 - 7, 0, 0, [4]int{0, 0, 0, 0}}, {math.MaxInt64 - 8, 7, 1, [4]int{0, 1, 2, 3}},
	{math.MinInt64, 0, 0, [4]int{0, 0, 0, 0}}, {math.MinInt64 + 1, 1, 0, [4]int{0, 0, 0, 0}}, {math.MinInt64 + 7, 7, 1, [4]int{0, 1, 2, 3}}, {math.MinInt64 + 8, 0, 0, [4]int{0, 0, 0, 0}},
}

// owned: the groups that each place owns, by par, reckoned by hand.
var owned = [...][][]int{
	1: {{0, 1, 2, 3, 4, 5, 6, 7}},
	2: {{0, 1, 2, 3}, {4, 5, 6, 7}},
	3: {{0, 1, 2}, {3, 4, 5}, {6, 7}},
	4: {{0, 1}, {2, 3}, {4, 5}, {6, 7}},
}

// noPars are not from 1 to 4.
var noPars = []int{
	math.MinInt, math.MinInt + 1, math.MinInt + 4, math.MinInt32, -1 << 61, -256, -255, -8, -5, -4, -3, -2, -1, 0,
	5, 6, 7, 8, 9, 16, 255, 256, 257, 260, 1 << 16, 1<<16 + 1, math.MaxInt32, 1 << 32, 1<<32 + 1, 1<<32 + 4, 1 << 61, 1<<61 + 1, 1 << 62, math.MaxInt - 1, math.MaxInt,
}

// keys: those at which something begins, all near 0, and some that are not alike, of all lengths.
func keys() []int64 {
	var l []int64
	for key := int64(-1100); key <= 1100; key++ {
		l = append(l, key)
	}
	for bit := range 64 {
		for near := int64(-17); near <= 17; near++ {
			l = append(l, 1<<bit+near, -1<<bit+near) // from the least on and up to the greatest, too: these go round
		}
	}
	x := uint64(15)
	for range 5000 {
		x = x*6364136223846793005 + 1442695040888963407
		l = append(l, int64(x)>>(x>>58))
	}
	return l
}

// rest is what of a key the chapter's words tell as its group, in numbers without a bound.
func rest(key int64) int {
	return int(new(big.Int).Mod(big.NewInt(key), big.NewInt(8)).Int64())
}

// place is that of a group's keys among par, by the chapter's words: how often 8 goes into the product.
func place(of, par int) int {
	many := 0
	for product := of * par; product >= 8; product -= 8 {
		many++
	}
	return many
}

// owns asks Owns.
func owns(t *testing.T, at, par int, want ...int) {
	t.Helper()
	if l := group.Owns(at, par); !slices.Equal(l, want) {
		t.Errorf("Owns(%d, %d) = %d, want %d", at, par, l, want)
	}
}

// TestExamples: the chapter's.
func TestExamples(t *testing.T) {
	if got := [...]int{group.Of(9), group.Of(-1), group.Part(9), group.Part(-1)}; got != [...]int{1, 7, 0, 1} {
		t.Error(got)
	}
	if at := group.Place(-1, 3); at != 2 {
		t.Errorf("Place(-1, 3) = %d", at)
	}
	owns(t, 0, 3, 0, 1, 2)
	owns(t, 2, 3, 6, 7)
	owns(t, 3, 3)
}

// TestConstants: the limits by the numbers that the document says.
func TestConstants(t *testing.T) {
	if got := [...]int{api.Groups, api.Parts, api.MaxPar}; got != [...]int{8, 2, 4} {
		t.Error(got)
	}
}

// TestTold: P15.1.
func TestTold(t *testing.T) {
	for _, c := range told {
		if of, part := group.Of(c.key), group.Part(c.key); of != c.group || part != c.part {
			t.Errorf("of %d: group %d, part %d, want %d, %d", c.key, of, part, c.group, c.part)
		}
		for i, want := range c.places {
			if at := group.Place(c.key, i+1); at != want {
				t.Errorf("Place(%d, %d) = %d, want %d", c.key, i+1, at, want)
			}
		}
	}
}

// TestByWords: P15.1: of many keys; each group, part and place is met.
func TestByWords(t *testing.T) {
	met := map[[3]int]int{}
	for _, key := range keys() {
		want := rest(key)
		met[[3]int{0, 0, want}]++
		if of := group.Of(key); of != want {
			t.Errorf("Of(%d) = %d, want %d", key, of, want)
		}
		met[[3]int{0, 1, want / 4}]++
		if part := group.Part(key); part != want/4 {
			t.Errorf("Part(%d) = %d, want %d", key, part, want/4)
		}
		for par := 1; par <= 4; par++ {
			met[[3]int{1, par, place(want, par)}]++
			if at := group.Place(key, par); at != place(want, par) {
				t.Errorf("Place(%d, %d) = %d, want %d", key, par, at, place(want, par))
			}
		}
	}
	if len(met) != 8+2+1+2+3+4 {
		t.Error(met)
	}
}

// TestBounds: P15.1: group, part and place lie within their bounds, whatever the key; keys that are 8 apart are alike.
func TestBounds(t *testing.T) {
	for _, key := range keys() {
		if of, part := group.Of(key), group.Part(key); of < 0 || of > 7 || part < 0 || part > 1 {
			t.Errorf("of %d: group %d, part %d", key, of, part)
		}
		for par := 1; par <= 4; par++ {
			at := group.Place(key, par)
			if at < 0 || at >= par {
				t.Errorf("Place(%d, %d) = %d", key, par, at)
			}
			if next := group.Place(key+8, par); next != at { // 2^64 has no rest: so also where the sum goes round
				t.Errorf("Place(%d, %d) = %d, 8 ahead %d", key, par, at, next)
			}
		}
		if group.Of(key) != group.Of(key-8) || group.Part(key) != group.Part(key-8) || (group.Of(key)+1)%8 != group.Of(key+1) {
			t.Errorf("of %d and those beside it: %d, %d, %d", key, group.Of(key-8), group.Of(key), group.Of(key+1))
		}
	}
}

// TestNoPar: P15.1, P15.2: of a par that is not from 1 to 4 no key has a place, and no place has groups: -1 neither.
func TestNoPar(t *testing.T) {
	for _, par := range noPars {
		for _, c := range told {
			if at := group.Place(c.key, par); at != -1 {
				t.Errorf("Place(%d, %d) = %d, want -1", c.key, par, at)
			}
		}
		for at := -20; at <= 20; at++ {
			owns(t, at, par)
		}
		for _, at := range noPars {
			owns(t, at, par)
		}
		owns(t, par-1, par)
	}
	for par := -300; par <= 300; par++ {
		if at, is := group.Place(7, par), 1 <= par && par <= 4; is && at != par-1 || !is && at != -1 {
			t.Errorf("Place(7, %d) = %d", par, at)
		}
	}
}

// TestOwns: P15.2: all places there are, and those beside them and far out.
func TestOwns(t *testing.T) {
	for par := 1; par <= 4; par++ {
		for at := -300; at <= 300; at++ {
			if 0 <= at && at < par {
				owns(t, at, par, owned[par][at]...)
			} else {
				owns(t, at, par)
			}
		}
		for _, far := range []int{math.MinInt, math.MinInt + 1, math.MinInt + 8, math.MinInt32, -1 << 61, 1<<16 + 1, math.MaxInt32, 1 << 32, 1<<32 + 1, 1 << 61, 1 << 62, math.MaxInt - 1, math.MaxInt} {
			owns(t, far, par)
		}
	}
}

// TestOnePlace: P15.3: place by place the groups are all there are, each once, one behind the other; each place has one at least.
func TestOnePlace(t *testing.T) {
	for par := 1; par <= 4; par++ {
		next := 0
		for at := range par {
			l := group.Owns(at, par)
			if len(l) == 0 {
				t.Errorf("of %d, place %d owns none", par, at)
			}
			for _, of := range l {
				if of != next {
					t.Errorf("of %d, place %d owns %d: %d is next", par, at, l, next)
				}
				next++
			}
		}
		if next != 8 {
			t.Errorf("of %d, places own %d groups", par, next)
		}
	}
}

// TestOwner: P15.2, P15.3: a key's place owns its group, and no other place does.
func TestOwner(t *testing.T) {
	for _, key := range keys() {
		for par := 1; par <= 4; par++ {
			for at := -1; at <= par; at++ {
				if has := slices.Contains(group.Owns(at, par), group.Of(key)); has != (at == group.Place(key, par)) {
					t.Errorf("key %d, place %d among %d: place %d has its group: %v", key, group.Place(key, par), par, at, has)
				}
			}
		}
	}
}

// TestWhatever: R1: each call ends, at whatever arguments, and answers what may be.
func TestWhatever(t *testing.T) {
	l := keys()
	for i, key := range l {
		at, par := int(l[len(l)-1-i]), int(l[(i*7+3)%len(l)])
		if of := group.Place(key, par); of < -1 || of > 3 {
			t.Errorf("Place(%d, %d) = %d", key, par, of)
		}
		if owns := group.Owns(at, par); len(owns) > 0 && (at < 0 || at >= par || par > 4) {
			t.Errorf("Owns(%d, %d) = %d", at, par, owns)
		}
	}
}

// TestNew: what is answered is nobody else's: writing into it, or behind its end, changes no other answer.
func TestNew(t *testing.T) {
	for par := 1; par <= 4; par++ {
		for at := range par {
			a, b := group.Owns(at, par), group.Owns(at, par)
			_ = append(a, 99, 99, 99)
			for i := range a {
				a[i] = 77
			}
			if !slices.Equal(b, owned[par][at]) {
				t.Errorf("Owns(%d, %d) = %d behind a change to another answer", at, par, b)
			}
			owns(t, at, par, owned[par][at]...)
		}
	}
}
