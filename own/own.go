// Package own copies what is handed in, for those who keep it: whoever handed it in may change it later.
package own

import "changeling/api"

// Nodes are the same as those, which are of a job that may be, and share nothing with them.
func Nodes(l []api.Node) []api.Node {
	var own []api.Node
	for _, n := range l {
		n.In = append([]int(nil), n.In...)
		n.X = expr(n.X)
		own = append(own, n)
	}
	return own
}

// expr is the same of an expression; one of a job that may be has few parts.
func expr(x api.Expr) api.Expr {
	own := api.Expr{Op: x.Op, N: x.N}
	for _, part := range x.Args {
		own.Args = append(own.Args, expr(part))
	}
	return own
}
