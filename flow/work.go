package flow

import (
	"slices"

	"changeling/api"
	"changeling/oper"
	"changeling/pipe"
	"changeling/table"
)

// work is one of those that share a node. Its messages are numbered from 0 on, whatever number the first input record has: so they may be, also where the numbers of input records run over.
type work struct {
	api.Node
	at, sub int
	table   *table.Table   // nil, if the node is not stateful
	fed     []api.Msg      // of a first work: what was fed, and it has not taken
	from    [][]*pipe.Pipe // of each node that it reads, in the order of In, those from that node's works
	to      []way
}

// way leads to a work, to which the records of some keys go.
type way struct {
	*pipe.Pipe
	goes func(key int64) bool
}

// waits: whether something is left for the work to take.
func (w work) waits() bool {
	return len(w.fed) > 0 || slices.ContainsFunc(w.into(), func(p *pipe.Pipe) bool { return p.Len() > 0 })
}

// can: whether the work can go on.
func (w work) can() bool {
	if w.Kind == api.NdSource && len(w.fed) == 0 {
		return false
	}
	return !slices.ContainsFunc(w.into(), func(p *pipe.Pipe) bool { return p.Len() == 0 }) &&
		!slices.ContainsFunc(w.to, func(to way) bool { return to.Room() == 0 })
}

// into are all pipes to the work.
func (w work) into() []*pipe.Pipe { return slices.Concat(w.from...) }

// turn is the work's going on, if it can.
func (w *work) turn() api.Work {
	m := w.take()
	did := api.Work{Kind: api.WkRecs, Node: w.at, Sub: w.sub, Seq: m.Seq, Bar: m.Bar}
	if m.Bar > 0 {
		did.Kind, did.Bytes = api.WkBar, w.table.Bytes()
		w.hand(func(way) api.Msg { return m })
		return did
	}
	made := oper.Merge(oper.Do(w.Node, w.table, m.L))
	if w.Kind == api.NdSink {
		did.L = made
	}
	w.hand(func(to way) api.Msg { return api.Msg{Seq: m.Seq, L: those(made, to.goes)} })
	return did
}

// take takes the first message of each that is there for the work: one that has all that its node gets.
func (w *work) take() api.Msg {
	if w.Kind == api.NdSource {
		m := w.fed[0]
		w.fed = w.fed[1:]
		return m
	}
	var m api.Msg
	var in [][]api.Rec
	for _, from := range w.from {
		var l [][]api.Rec
		for _, p := range from {
			m, _ = p.Take() // OK, as there is one
			l = append(l, m.L)
		}
		in = append(in, oper.Merge(l...))
	}
	m.L = oper.Gets(w.Node, in...)
	return m
}

// hand puts to each that reads the work what is told to go there.
func (w *work) hand(told func(to way) api.Msg) {
	for _, to := range w.to {
		to.Put(told(to)) // OK, as there is room
	}
}

// those are the records whose keys go.
func those(l []api.Rec, goes func(key int64) bool) []api.Rec {
	var some []api.Rec
	for _, r := range l {
		if goes(r.Key) {
			some = append(some, r)
		}
	}
	return some
}
