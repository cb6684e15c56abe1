package job

import (
	"changeling/api"
	"changeling/expr"
	"changeling/kind"
	"changeling/names"
)

// ask is what a kind asks for of a node.
type ask struct {
	few, many   int   // of In, at least and at most
	ty          uint8 // of X; 0 where it is the zero expression
	acc         bool  // whether X may have one
	least, most int   // of N
	keeps       bool  // whether nodes of the kind are stateful
}

// asks has what a kind asks for at its number; no kind is 0.
var asks = [...]ask{
	api.NdSource: {},
	api.NdMap:    {few: 1, many: 1, ty: api.TyInt},
	api.NdFilter: {few: 1, many: 1, ty: api.TyBool},
	api.NdFlat:   {few: 1, many: 1, ty: api.TyInt},
	api.NdKey:    {few: 1, many: 1, ty: api.TyInt},
	api.NdReduce: {few: 1, many: 1, ty: api.TyInt, acc: true, keeps: true},
	api.NdWindow: {few: 1, many: 1, least: 1, most: api.MaxWindow, keeps: true},
	api.NdUnion:  {few: 2, many: api.MaxIns},
	api.NdSink:   {few: 1, many: 1},
}

// asked is what a kind asks for; false, if it is none.
func asked(which uint8) (ask, bool) {
	if which < api.NdSource || which > api.NdSink {
		return ask{}, false
	}
	return asks[which], true
}

// alone tells the first node that is wrong, whatever stands behind it.
func alone(l []api.Node) (int, api.Errno) {
	for at, n := range l {
		switch {
		case !mayStand(n, at):
			return at, api.ErrNode
		case named(l[:at], n.Uid) >= 0:
			return at, api.ErrUid
		}
	}
	return 0, api.OK
}

// mayStand: whether a node may be at that place.
func mayStand(n api.Node, at int) bool {
	a, ok := asked(n.Kind)
	return ok && names.Name(n.Uid) && a.takesIn(n.In, at) && a.takesX(n.X) && a.least <= n.N && n.N <= a.most
}

// takesIn: whether a node at that place may read these.
func (a ask) takesIn(in []int, at int) bool {
	if len(in) < a.few || len(in) > a.many {
		return false
	}
	return first(in, func(i int) bool {
		again := places(in, func(other int) bool { return other == i })
		return i < 0 || i >= at || len(again) > 1
	}) < 0
}

func (a ask) takesX(x api.Expr) bool {
	if a.ty == 0 {
		return expr.Same(x, api.Expr{})
	}
	return kind.Is(x, a.acc, a.ty)
}
