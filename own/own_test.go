package own_test

import (
	"testing"

	"changeling/api"
	"changeling/job"
	"changeling/own"
	"changeling/script"
)

// nodes are those of a job with rows and expressions to share.
func nodes(t *testing.T) []api.Node {
	t.Helper()
	j, _, e := script.Parse("par 1\ns source\nm map s : if key < 3 then val + 1 else -val\nu union m s\nw window u 3\nt sink w")
	if e != api.OK {
		t.Fatal(e)
	}
	return j.Nodes
}

func same(a, b []api.Node) bool {
	return job.Same(api.Job{Nodes: a}, api.Job{Nodes: b})
}

// scribble writes over all rows that nodes have.
func scribble(l []api.Node) {
	for i := range l {
		clear(l[i].In)
		scribbleExpr(l[i].X)
	}
	clear(l)
}

func scribbleExpr(x api.Expr) {
	for _, part := range x.Args {
		scribbleExpr(part)
	}
	clear(x.Args)
}

// TestNodes: they are the same, and what is done to the ones changes nothing of the others.
func TestNodes(t *testing.T) {
	l := nodes(t)
	mine := own.Nodes(l)
	if !same(mine, nodes(t)) || !same(l, nodes(t)) {
		t.Fatal(mine, l)
	}
	scribble(l)
	if !same(mine, nodes(t)) {
		t.Error(mine)
	}
	l = own.Nodes(mine)
	scribble(mine)
	if !same(l, nodes(t)) {
		t.Error(l)
	}
}

// TestNone: of none there are none.
func TestNone(t *testing.T) {
	if l := own.Nodes(nil); len(l) != 0 {
		t.Error(l)
	}
}
