package job

import "changeling/api"

// bounded: whether there are neither too few nor too many of anything.
func bounded(j api.Job) bool {
	if j.Par < 1 || j.Par > api.MaxPar || len(j.Nodes) < 2 || len(j.Nodes) > api.MaxNodes {
		return false
	}
	room := api.MaxParts
	for i := range j.Nodes {
		room = left(&j.Nodes[i].X, room)
	}
	return room >= 0
}

// left is how much room a part leaves, with all that stands in it. Below 0 it goes no further: Args may be shared on all levels, or have themselves in them.
func left(x *api.Expr, room int) int {
	room--
	for i := 0; i < len(x.Args) && room >= 0; i++ {
		room = left(&x.Args[i], room)
	}
	return room
}

// together tells the first node that does not hang together with the others, each of which may be at its place.
func together(l []api.Node) (int, api.Errno) {
	ways := make([]int, len(l))
	for at, n := range l {
		ways[at] = waysTo(n, ways)
		last := at == len(l)-1
		switch {
		case (n.Kind == api.NdSource) != (at == 0), (n.Kind == api.NdSink) != last:
			return at, api.ErrShape
		case !last && !readWell(l, at):
			return at, api.ErrShape
		case n.Kind == api.NdFlat && flats(l[:at]) >= api.MaxFlats, ways[at] > api.MaxWays:
			return at, api.ErrShape
		}
	}
	return 0, api.OK
}

// waysTo is how many ways a node has, behind those ahead of it.
func waysTo(n api.Node, ways []int) int {
	if n.Kind == api.NdSource {
		return 1
	}
	sum := 0
	for _, i := range n.In {
		sum += ways[i]
	}
	if n.Kind == api.NdFlat {
		return sum * api.MaxFlat
	}
	return sum
}

// readWell: whether some others read the node at, but not too many.
func readWell(l []api.Node, at int) bool {
	many := len(readers(l, at))
	return 1 <= many && many <= api.MaxIns
}

// flats is how many nodes make several records of one.
func flats(l []api.Node) int {
	return len(places(l, func(n api.Node) bool { return n.Kind == api.NdFlat }))
}
