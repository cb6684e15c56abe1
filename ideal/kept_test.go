package ideal_test

import (
	"slices"
	"sync"
	"testing"

	"changeling/api"
	"changeling/ideal"
	"changeling/job"
)

// copies are an ideal's, and words that go on beside.
func (b both) copies(t *testing.T) both {
	t.Helper()
	d := b.d.Copy()
	if d == nil || d == b.d {
		t.Fatalf("Copy() = %p of %p", d, b.d)
	}
	c := both{d, b.w.copied(), b.j}
	c.tells(t)
	return c
}

// scribble writes over records, also behind their end.
func scribble(l []api.Rec) {
	l = l[:cap(l)]
	for i := range l {
		l[i] = api.Rec{Pos: -7, Key: -8, Val: -9}
	}
}

// scribbleExpr writes over all that an expression has.
func scribbleExpr(x *api.Expr) {
	for i := range x.Args {
		scribbleExpr(&x.Args[i])
	}
	x.Op, x.N = api.ExNum, 77
}

// scribbleJob writes over all that a job has.
func scribbleJob(j *api.Job) {
	for i := range j.Nodes {
		n := &j.Nodes[i]
		scribbleExpr(&n.X)
		for at := range n.In {
			n.In[at] = i - 1
		}
		n.Uid, n.Kind, n.N = "x", 2, 5
	}
	j.Par = 1
}

// TestCopy: P18.2: a copy is the same, and both go on each by itself.
func TestCopy(t *testing.T) {
	a := opened(t, several(), state("r", some()["r"]), state("w", some()["w"]), state("v", some()["v"]))
	was := a.tells(t)
	b := a.copies(t)
	for i := range int64(30) {
		a.fed(t, i%6, i)
		states(t, b.d, was...)
	}
	c, is := b.copies(t), a.tells(t)
	for i := range int64(30) {
		b.fed(t, i%5-2, i*i)
		states(t, a.d, is...)
		states(t, c.d, was...)
	}
	a.tells(t)
	b.tells(t)
	for i := range int64(30) { // in turns
		a.fed(t, i%4, -i)
		c.fed(t, i%3, i)
		b.fed(t, i%2, 5)
	}
	a.tells(t)
	b.tells(t)
	c.tells(t)
}

// TestCopyWithout: P18.2: a copy of a job's ideal that keeps nothing, and of one that keeps nothing yet.
func TestCopyWithout(t *testing.T) {
	for _, j := range []api.Job{jobOf("s source", "t sink s"), jobOf("s source", "f flat s : key", "u union f s", "t sink u"), several()} {
		a := made(t, j)
		b := a.copies(t)
		for i := range int64(10) {
			if x, y := a.fed(t, i, 1), b.fed(t, i, 1); !slices.Equal(x, y) {
				t.Error(x, y)
			}
		}
		states(t, b.d, a.tells(t)...)
	}
}

// TestCopies: P18.2: copies at whatever places of a row of records, and copies of these.
func TestCopies(t *testing.T) {
	d := dice(23)
	for range 300 {
		l := []both{made(t, d.grown())}
		for range 40 {
			at := d.below(len(l))
			if len(l) < 6 && d.below(8) == 0 {
				l = append(l, l[at].copies(t))
			}
			key, val := d.record()
			l[at].fed(t, key, val)
		}
		for _, b := range l {
			b.tells(t)
		}
	}
}

// TestJobHandedIn: R3: a job that is handed in stays as it is, also behind its lists' ends, and what is done to it later makes no difference.
func TestJobHandedIn(t *testing.T) {
	d := dice(24)
	for range 500 {
		j := d.grown()
		handed := copied(j)
		handed.Nodes = append(handed.Nodes, api.Node{Uid: "behind", Kind: 99})[:len(j.Nodes)]
		for i := range handed.Nodes {
			n := &handed.Nodes[i]
			n.In = append(n.In, 88)[:len(n.In)]
			n.X.Args = append(n.X.Args, api.Expr{Op: 77})[:len(n.X.Args)]
		}
		l := d.states(j)
		a, e := ideal.New(handed)
		b, f := ideal.Load(handed, l)
		if e != api.OK || f != api.OK {
			t.Fatal(e, f)
		}
		news, loads := both{a, wordsOf(j, nil), j}, opened(t, j, l...)
		loads.d = b
		for range 5 {
			key, val := d.record()
			news.fed(t, key, val)
			loads.fed(t, key, val)
			news.copies(t)
			loads.tells(t)
		}
		asItWas(t, handed, j)
		c := loads.copies(t)
		scribbleJob(&handed)
		for range 10 {
			key, val := d.record()
			news.fed(t, key, val)
			loads.fed(t, key, val)
			c.fed(t, key, val)
		}
		news.tells(t)
		loads.tells(t)
		c.tells(t)
	}
}

// asItWas holds a job that was handed in against the one it was, also behind its lists' ends.
func asItWas(t *testing.T, handed, j api.Job) {
	t.Helper()
	if !job.Same(handed, j) {
		t.Fatalf("%s became %s", told(j), told(handed))
	}
	if n := handed.Nodes[:len(j.Nodes)+1][len(j.Nodes)]; n.Uid != "behind" || n.Kind != 99 {
		t.Error(n)
	}
	for _, n := range handed.Nodes {
		if n.In[:len(n.In)+1][len(n.In)] != 88 || n.X.Args[:len(n.X.Args)+1][len(n.X.Args)].Op != 77 {
			t.Error(n)
		}
	}
}

// TestStatesHandedIn: R3: states that are handed in stay as they are, also behind their end, and what is done to them later makes no difference.
func TestStatesHandedIn(t *testing.T) {
	l := []api.State{state("w", some()["w"]), state("r", some()["r"]), {Uid: "behind"}}
	handed := slices.Clone(l)
	d, e := ideal.Load(several(), handed[:2])
	b := opened(t, several(), l[:2]...)
	b.d = d
	for i := range int64(10) {
		b.fed(t, i%4, i)
	}
	if e != api.OK || !slices.Equal(handed, l) {
		t.Error(e, handed)
	}
	handed[0], handed[1] = api.State{Uid: "r"}, api.State{}
	for i := range int64(10) {
		b.fed(t, i%4, i)
	}
	b.tells(t)
}

// TestAnswers: R3: what came out, and what was told, does not change later; and what is done to it makes no difference.
func TestAnswers(t *testing.T) {
	d := dice(25)
	for range 400 {
		j := d.grown()
		b := opened(t, j, d.states(j)...)
		c := b.copies(t)
		type answer struct{ got, was []api.Rec }
		var outs []answer
		was := b.d.States()
		held := slices.Clone(was)
		for range 12 {
			key, val := d.record()
			got := b.fed(t, key, val)
			outs = append(outs, answer{got, slices.Clone(got)})
			scribble(c.fed(t, key, val))
			l := c.d.States()
			for i := range l[:cap(l)] {
				l[:cap(l)][i] = api.State{Uid: "x", Bytes: "y"}
			}
			c.tells(t)
		}
		for _, o := range outs {
			if !slices.Equal(o.got, o.was) {
				t.Errorf("%s: %v became %v", told(j), o.was, o.got)
			}
			scribble(o.got)
		}
		if !slices.Equal(held, was) {
			t.Errorf("%s: %q became %q", told(j), held, was)
		}
		key, val := d.record()
		b.fed(t, key, val)
		c.fed(t, key, val)
		b.tells(t)
		c.tells(t)
	}
}

// TestApart: R3, R5: two ideals of one job that is handed in, loaded with the same states, go on each by itself.
func TestApart(t *testing.T) {
	j, l := several(), []api.State{state("r", some()["r"]), state("v", some()["v"]), state("w", some()["w"])}
	a, b := opened(t, j, l...), opened(t, j, l...)
	for i := range int64(30) {
		a.fed(t, i%4, i)
	}
	states(t, b.d, state("r", some()["r"]), state("w", some()["w"]), state("v", some()["v"]))
	b.fed(t, 5, 1)
	a.tells(t)
	b.tells(t)
	c := opened(t, j, l...)
	c.fed(t, 5, 1)
	states(t, c.d, b.tells(t)...)
}

// TestGoesOn: P18.3: loaded with the states that another one told, at every place of a row of records, an ideal goes on as that one; each state that is told may be loaded, by itself, and in whatever order.
func TestGoesOn(t *testing.T) {
	d := dice(26)
	for range 150 {
		j := d.grown()
		const many = 25
		var keys, vals [many]int64
		for i := range many {
			keys[i], vals[i] = d.record()
		}
		a := opened(t, j, d.states(j)...)
		for i := range many {
			l := a.tells(t)
			for _, s := range l {
				opened(t, j, s)
			}
			slices.Reverse(l)
			b, c := opened(t, j, l...), a.copies(t)
			for at := i; at < many; at++ {
				if x, y := b.fed(t, keys[at], vals[at]), c.fed(t, keys[at], vals[at]); !slices.Equal(x, y) {
					t.Fatalf("%s: %v and %v", told(j), x, y)
				}
			}
			states(t, b.d, c.tells(t)...)
			a.fed(t, keys[i], vals[i])
		}
	}
}

// TestGoesOnFull: P18.3: also where groups are full, and of windows of each length.
func TestGoesOnFull(t *testing.T) {
	for _, lines := range [][]string{
		{"s source", "r reduce s : acc + val", "t sink r"},
		{"s source", "w window s 16", "t sink w"},
		{"s source", "w window s 2", "v window w 3", "t sink v"},
		{"s source", "f flat s : 4", "k key f : val", "w window k 3", "r reduce k : acc - val", "u union w r", "t sink u"},
	} {
		j, d := jobOf(lines...), dice(27)
		a := made(t, j)
		for i := range 3000 {
			key := int64(d.below(500)) - 250
			if i%20 == 0 { // another one goes on, by the same words
				a.d = opened(t, j, a.tells(t)...).d
			}
			a.fed(t, key, d.number())
		}
		a.tells(t)
	}
}

// TestPar: P18.4: what comes out, and what is told, is the same for every Par, also where one is loaded with what one of another Par told.
func TestPar(t *testing.T) {
	d := dice(28)
	for range 300 {
		j := d.grown()
		l := d.states(j)
		var by []both
		for par := 1; par <= api.MaxPar; par++ {
			k := copied(j)
			k.Par = par
			by = append(by, opened(t, k, l...))
		}
		for range 20 {
			key, val := d.record()
			want := by[0].fed(t, key, val)
			for _, b := range by[1:] {
				if got := b.fed(t, key, val); !slices.Equal(got, want) {
					t.Fatalf("%s: %v, want %v", told(b.j), got, want)
				}
			}
		}
		for i, b := range by {
			states(t, b.d, by[0].tells(t)...)
			other := opened(t, b.j, by[(i+1)%len(by)].tells(t)...)
			key, val := d.record()
			if x, y := other.fed(t, key, val), b.copies(t).fed(t, key, val); !slices.Equal(x, y) {
				t.Fatalf("%s: %v and %v", told(b.j), x, y)
			}
		}
	}
}

// TestAgain: R5: what comes out hangs on the ideal alone: the same again, of another one, whatever was asked between.
func TestAgain(t *testing.T) {
	d := dice(29)
	for range 200 {
		j := d.grown()
		l := d.states(j)
		a, b := opened(t, j, l...), opened(t, j, l...)
		for range 15 {
			key, val := d.record()
			for range d.below(3) {
				a.tells(t)
				a.copies(t).fed(t, val, key)
				ideal.Fits(j.Nodes[d.below(len(j.Nodes))], nil)
			}
			if x, y := a.fed(t, key, val), b.fed(t, key, val); !slices.Equal(x, y) {
				t.Fatalf("%s: %v and %v", told(j), x, y)
			}
		}
		states(t, a.d, b.tells(t)...)
	}
}

// TestBeside: R4: an ideal and its copies may be asked by several goroutines, each its own one.
func TestBeside(t *testing.T) {
	a := opened(t, several(), state("r", some()["r"]), state("w", some()["w"]))
	var all sync.WaitGroup
	ends := make([][]api.State, 4)
	for i := range ends {
		d := a.d.Copy()
		all.Go(func() {
			for n := range int64(200) {
				d.Feed(n%9, n)
				d.Copy().Feed(n, n)
			}
			ends[i] = d.States()
		})
	}
	all.Wait()
	for n := range int64(200) {
		a.fed(t, n%9, n)
	}
	for _, l := range ends {
		states(t, a.d, l...)
	}
}
