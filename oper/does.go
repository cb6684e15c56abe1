package oper

import (
	"changeling/api"
	"changeling/eval"
	"changeling/table"
)

// doer makes of a record those that come of it.
type doer func(r api.Rec) []api.Rec

// picked is what the node does.
func picked(n api.Node, t *table.Table) doer {
	x := func(r api.Rec, acc int64) int64 {
		return eval.Int(n.X, api.Env{Key: r.Key, Val: r.Val, Acc: acc})
	}
	switch n.Kind {
	case api.NdMap:
		return func(r api.Rec) []api.Rec { return one(r.Pos, r.Key, x(r, 0)) }
	case api.NdKey:
		return func(r api.Rec) []api.Rec { return one(r.Pos, x(r, 0), r.Val) }
	case api.NdFilter:
		return func(r api.Rec) []api.Rec {
			if !eval.Bool(n.X, api.Env{Key: r.Key, Val: r.Val}) {
				return nil
			}
			return one(r.Pos, r.Key, r.Val)
		}
	case api.NdFlat:
		return func(r api.Rec) []api.Rec {
			var l []api.Rec
			for i := range min(x(r, 0), api.MaxFlat) {
				l = append(l, api.Rec{Pos: spread*r.Pos + i, Key: r.Key, Val: r.Val + i})
			}
			return l
		}
	case api.NdReduce:
		return reduces(t, x)
	case api.NdWindow:
		return gathers(t, n.N)
	}
	return func(r api.Rec) []api.Rec { return one(r.Pos, r.Key, r.Val) }
}

// reduces keeps of each key what x comes to with what was kept.
func reduces(t *table.Table, x func(r api.Rec, acc int64) int64) doer {
	return func(r api.Rec) []api.Rec {
		was, _ := t.Get(r.Key)
		acc := x(r, was.Acc)
		if t.Put(r.Key, api.Cell{Acc: acc}) != api.OK {
			return nil
		}
		return one(r.Pos, r.Key, acc)
	}
}

// gathers keeps of each key the numbers that came, until there are enough of them.
func gathers(t *table.Table, enough int) doer {
	return func(r api.Rec) []api.Rec {
		c, is := t.Get(r.Key)
		if !is && t.Put(r.Key, c) != api.OK {
			return nil // full for the key, also where that would be dropped at once
		}
		c.L = append(c.L, r.Val)
		if len(c.L) < enough {
			t.Put(r.Key, c) // a row that is longer than a table may have is not kept: the one that was stays
			return nil
		}
		t.Drop(r.Key)
		return one(r.Pos, r.Key, sum(c.L))
	}
}

// one is a row of one record.
func one(pos, key, val int64) []api.Rec {
	return []api.Rec{{Pos: pos, Key: key, Val: val}}
}

func sum(l []int64) int64 {
	all := int64(0)
	for _, n := range l {
		all += n
	}
	return all
}
