package script_test

import (
	"regexp"
	"slices"
	"strconv"
	"strings"
	"testing"

	"changeling/api"
	"changeling/expr"
	"changeling/job"
	"changeling/kind"
	"changeling/names"
	"changeling/script"
)

// kindWords are the kinds' words, in the order of their numbers.
func kindWords() []string {
	return strings.Fields("none source map filter flat key reduce window union sink")
}

func hasX(kind uint8) bool { return 2 <= kind && kind <= 6 }

// textOf is a job's text by the chapter's words.
func textOf(j api.Job) string {
	s := "par " + strconv.Itoa(j.Par) + "\n"
	for _, n := range j.Nodes {
		s += n.Uid + " " + kindWords()[n.Kind]
		for _, i := range n.In {
			s += " " + j.Nodes[i].Uid
		}
		if n.Kind == 7 {
			s += " " + strconv.Itoa(n.N)
		}
		if hasX(n.Kind) {
			s += " : " + line(n.X)
		}
		s += "\n"
	}
	return s
}

// saysText is Text by the chapter's words.
func saysText(j api.Job) (string, api.Errno) {
	if _, e := job.May(j); e != api.OK {
		return "", api.ErrArg
	}
	for _, n := range j.Nodes {
		if hasX(n.Kind) && len(line(n.X)) > 400 {
			return "", api.ErrWide
		}
	}
	return textOf(j), api.OK
}

var (
	nothing  = regexp.MustCompile(`(?s)^(#.*|[ \t]*)$`)
	parLine  = regexp.MustCompile(`^par ([0-9])$`)
	nodeLine = regexp.MustCompile(`^([^ ]+) (source|map|filter|flat|key|reduce|union|sink)((?: [^ ]+)*)$`)
	window7  = regexp.MustCompile(`^([^ ]+) (window)((?: [^ ]+)*) ([0-9][0-9]?)$`)
)

// saysLine takes one more line, by the chapter's words; of the first one at is 0.
func saysLine(j *api.Job, l string, at int) api.Errno {
	halves := strings.SplitN(l, ":", 2)
	words, e := names.Words(halves[0])
	if e != api.OK {
		return e
	}
	row := strings.Join(words, " ")
	if at == 0 {
		m := parLine.FindStringSubmatch(row)
		if m == nil || len(halves) > 1 {
			return api.ErrLine
		}
		j.Par = int(m[1][0] - '0')
		return api.OK
	}
	m := nodeLine.FindStringSubmatch(row)
	if m == nil {
		m = window7.FindStringSubmatch(row)
	}
	if m == nil {
		return api.ErrLine
	}
	n := api.Node{Uid: m[1], Kind: uint8(slices.Index(kindWords(), m[2]))}
	if n.Kind == 7 {
		n.N, _ = strconv.Atoi(m[4])
	}
	for _, uid := range strings.Split(m[3], " ")[1:] {
		i := slices.IndexFunc(j.Nodes, func(other api.Node) bool { return other.Uid == uid })
		if i < 0 {
			return api.ErrLine
		}
		n.In = append(n.In, i)
	}
	if hasX(n.Kind) != (len(halves) > 1) {
		return api.ErrLine
	}
	if hasX(n.Kind) {
		x := halves[1]
		for x != "" && (x[0] == ' ' || x[0] == '\t') {
			x = x[1:]
		}
		if n.X, _, e = expr.Parse(x); e != api.OK {
			return e
		}
	}
	j.Nodes = append(j.Nodes, n)
	return api.OK
}

// saysJob is Parse by the chapter's words.
func saysJob(s string) (api.Job, int, api.Errno) {
	if len(s) > 65536 {
		return api.Job{}, 0, api.ErrLong
	}
	j, said := api.Job{}, []int{}
	for i, l := range strings.Split(s, "\n") {
		if nothing.MatchString(l) {
			continue
		}
		if e := saysLine(&j, l, len(said)); e != api.OK {
			return api.Job{}, 1 + i, e
		}
		said = append(said, 1+i)
	}
	if len(said) == 0 {
		return api.Job{}, 0, api.ErrLine
	}
	at, e := job.May(j)
	if e == api.ErrArg {
		return api.Job{}, 0, e
	}
	if e != api.OK {
		return api.Job{}, said[1:][at], e
	}
	return j, 0, api.OK
}

// holdsText holds Text against the chapter's words, and Parse of the text; and asks that the job is as it was.
func holdsText(t *testing.T, j api.Job) api.Errno {
	t.Helper()
	before := copied(j)
	want, e := saysText(j)
	if e == api.OK {
		both(t, j, want)
	} else {
		untold(t, j, e)
	}
	if !alikeJobs(j, before) {
		t.Errorf("%.600s was %.600s", shown(j), shown(before))
	}
	return e
}

// holds holds Parse against the chapter's words, and P13.3.
func holds(t *testing.T, s string) api.Errno {
	t.Helper()
	j, at, e := saysJob(s)
	if e != api.OK {
		wrong(t, s, at, e)
		return e
	}
	read(t, s, j)
	k, _, _ := script.Parse(s)
	if holdsText(t, k) == api.OK {
		again, _ := script.Text(k)
		read(t, again, k)
		told(t, k, again)
	}
	return e
}

func copiedExpr(x api.Expr) api.Expr {
	y := api.Expr{Op: x.Op, N: x.N}
	for _, a := range x.Args {
		y.Args = append(y.Args, copiedExpr(a))
	}
	return y
}

// copied shares nothing with j.
func copied(j api.Job) api.Job {
	k := api.Job{Par: j.Par}
	for _, n := range j.Nodes {
		n.In, n.X = append([]int(nil), n.In...), copiedExpr(n.X)
		k.Nodes = append(k.Nodes, n)
	}
	return k
}

// picker picks numbers from one start.
type picker uint64

func (p *picker) of(n int) int {
	*p = *p*6364136223846793005 + 1442695040888963407
	return int(uint64(*p) >> 33 % uint64(n))
}

func (p *picker) word(l ...string) string { return l[p.of(len(l))] }

// typed is an expression of at most so many levels, of TyInt (1) or TyBool (2).
func (p *picker) typed(ty, deep int, hasAcc bool) api.Expr {
	x := func(ty int) api.Expr { return p.typed(ty, deep-1, hasAcc) }
	switch {
	case ty == 1 && (deep <= 1 || p.of(5) == 0):
		if hasAcc && p.of(2) == 0 {
			return acc
		}
		return []api.Expr{key, val, num(int64(p.of(100))), num(int64(p.of(1<<31)) << p.of(33))}[p.of(4)]
	case deep <= 2 && ty == 2:
		return of(uint8(12+p.of(4)), x(1), x(1))
	}
	if ty == 1 {
		switch p.of(7) {
		case 0:
			return of(5, x(1))
		case 1:
			return of(18, x(2), x(1), x(1))
		}
		return of(uint8(7+p.of(5)), x(1), x(1))
	}
	switch p.of(6) {
	case 0:
		return of(6, x(2))
	case 1:
		return of(18, x(2), x(2), x(2))
	case 2:
		return of(uint8(14+p.of(2)), x(2), x(2))
	case 3:
		return of(uint8(16+p.of(2)), x(2), x(2))
	}
	return of(uint8(12+p.of(4)), x(1), x(1))
}

// filled is the node with an X and N that its kind asks for.
func (p *picker) filled(n api.Node, deep int) api.Node {
	switch n.Kind {
	case 2, 4, 5:
		n.X = p.typed(1, 1+p.of(deep), false)
	case 3:
		n.X = p.typed(2, 2+p.of(deep), false)
	case 6:
		n.X = p.typed(1, 1+p.of(deep), true)
	case 7:
		n.N = 1 + p.of(16)
	}
	return n
}

// uid picks a name that is likely no other's.
func (p *picker) uid() string {
	return p.word("n", "map", "ä", "x-", "Z9", "source", "Ünïon") + strconv.Itoa(p.of(100000))
}

// any puts the places from 0 to many - 1 in whatever order.
func (p *picker) any(many int) []int {
	l := make([]int, many)
	for i := range l {
		at := p.of(i + 1)
		l[i] = l[at]
		l[at] = i
	}
	return l
}

// grown is a job each of whose nodes is read, if luck will have it; of few nodes, or many.
func (p *picker) grown(deep int) api.Job {
	j := api.Job{Par: 1 + p.of(4), Nodes: []api.Node{{Uid: p.uid(), Kind: 1}}}
	open := []int{0} // nobody reads these
	for many := p.of(12); len(j.Nodes) < many || len(open) > 1; {
		at := len(j.Nodes)
		n := api.Node{Uid: p.uid(), Kind: uint8(2 + p.of(6)), In: []int{open[p.of(len(open))]}}
		if p.of(3) == 0 {
			n.In[0] = p.of(at)
		}
		if n.Kind == 4 && p.of(4) > 0 {
			n.Kind = 5
		}
		if at > 1 && (p.of(9) == 0 || len(open) > 1 && at+len(open) > many) {
			n.Kind, n.In = 8, append(p.any(at), open...)
			slices.Reverse(n.In)
			n.In = uniq(n.In)[:min(at, 2+p.of(2))]
		}
		open = slices.DeleteFunc(open, func(i int) bool { return slices.Contains(n.In, i) })
		open = append(open, at)
		j.Nodes = append(j.Nodes, p.filled(n, deep))
	}
	j.Nodes = append(j.Nodes, api.Node{Uid: p.uid(), Kind: 9, In: []int{open[0]}})
	return j
}

// uniq leaves the first one of those that are the same.
func uniq(l []int) []int {
	var m []int
	for _, i := range l {
		if !slices.Contains(m, i) {
			m = append(m, i)
		}
	}
	return m
}

// TestGrown: P13.1, P13.3: whatever jobs.
func TestGrown(t *testing.T) {
	p := picker(13)
	many, sizes, met := map[api.Errno]int{}, map[int]int{}, map[uint8]int{}
	for range 6000 {
		j := p.grown(2 + p.of(5))
		e := holdsText(t, j)
		many[e]++
		if e == 0 {
			sizes[len(j.Nodes)]++
			for _, n := range j.Nodes {
				met[n.Kind]++
			}
		}
		if t.Failed() {
			t.FailNow()
		}
	}
	if many[0] < 3000 || many[2] < 100 || many[110] < 50 {
		t.Error(many)
	}
	for size := 2; size <= 12; size++ {
		if sizes[size] < 50 {
			t.Error(sizes)
		}
	}
	for kind := uint8(1); kind <= 9; kind++ {
		if met[kind] < 300 {
			t.Error(met)
		}
	}
}

// TestApart: P13.3: the texts of two jobs are the same just if the jobs are.
func TestApart(t *testing.T) {
	p := picker(133)
	same, differ := 0, 0
	for range 6000 {
		j := p.grown(2)
		k := copied(j)
		n := &k.Nodes[p.of(len(k.Nodes))]
		switch p.of(6) {
		case 0:
			k.Par = 1 + p.of(4)
		case 1:
			n.Uid = p.uid()
		case 2:
			slices.Reverse(n.In)
		case 3:
			n.Kind = uint8(1 + p.of(9))
		default:
			*n = p.filled(*n, 2)
		}
		a, e := script.Text(j)
		b, f := script.Text(k)
		if e != 0 || f != 0 {
			continue
		}
		if (a == b) != alikeJobs(j, k) {
			t.Fatalf("%q and %q", a, b)
		}
		if a == b {
			same++
		} else {
			differ++
		}
	}
	if same < 300 || differ < 1000 {
		t.Error(same, differ)
	}
}

// blanks picks what may stand where blanks may.
func (p *picker) blanks() string {
	if p.of(60) == 0 {
		return strings.Repeat(" ", p.of(300))
	}
	return p.word("", "", "", " ", "\t", "  ", "\t ")
}

// saysNothing picks lines that say nothing.
func (p *picker) saysNothing() string {
	s := ""
	for p.of(4) == 0 {
		s += p.word("", " ", "\t", "# x", "#", "#\x00\xff: s", strings.Repeat(" ", 500), "#"+strings.Repeat("ß", 300)) + "\n"
	}
	return s
}

// loose is one of the texts that are read as j is.
func (p *picker) loose(j api.Job) string {
	s := ""
	for _, l := range strings.SplitAfter(textOf(j), "\n") {
		if l == "" {
			break
		}
		ahead, x, colon := strings.Cut(strings.TrimSuffix(l, "\n"), ":")
		s += p.saysNothing() + p.blanks()
		for i, w := range strings.Fields(ahead) {
			if i > 0 {
				s += p.word(" ", " ", "\t")
			}
			s += p.blanks() + w
		}
		if colon && p.of(2) == 0 {
			x = strings.NewReplacer(" + ", "+", " - ", "\t- ", " * ", "  *").Replace(x)
		}
		if colon {
			s += p.blanks() + ":" + p.blanks() + x
		}
		s += p.word("", "", " ", "\t") + "\n"
	}
	s += p.saysNothing()
	if p.of(2) == 0 {
		s = strings.TrimSuffix(s, "\n")
	}
	return s
}

// TestLoose: P13.2, P13.3: texts with more blanks, and lines that say nothing, are of the same jobs.
func TestLoose(t *testing.T) {
	p := picker(132)
	many := map[api.Errno]int{}
	for range 6000 {
		j := p.grown(1 + p.of(4))
		if _, e := saysText(j); e != api.OK {
			continue
		}
		s := p.loose(j)
		e := holds(t, s)
		many[e]++
		if e == api.OK {
			read(t, s, j)
		} else if e != api.ErrLong { // of many blanks
			t.Error(s, e)
		}
		if t.Failed() {
			t.FailNow()
		}
	}
	if many[0] < 2000 {
		t.Error(many)
	}
}

// changed is a text with one thing changed.
func (p *picker) changed(s string) string {
	l := strings.Split(s, "\n")
	at, other := p.of(len(l)), p.of(len(l))
	words := strings.Split(l[at], " ")
	w, v := p.of(len(words)), p.of(len(words))
	b := p.of(len(s) + 1)
	from := b
	for p.of(3) > 0 && from > 0 {
		from--
	}
	switch p.of(12) {
	case 0:
		l[at], l[other] = l[other], l[at]
	case 1:
		l = slices.Insert(l, at, l[other])
	case 2:
		l = slices.Delete(l, at, at+1)
	case 3:
		words[w], words[v] = words[v], words[w]
	case 4:
		words = slices.Insert(words, w, words[v])
	case 5:
		words = slices.Delete(words, w, w+1)
	case 6:
		words[w] = strings.SplitN(l[other]+" x", " ", 2)[0] // likely a Uid
	case 7:
		words[w] = p.word("par", "0", "1", "9", "10", "16", "17", "01", "001", "99", "100", ":", "map", "filter", "flat", "key", "reduce", "window", "union", "sink", "source", "val", "val < 1", "acc", "#", "x", "", "\t", "-1", "ß")
	case 8:
		words = slices.Insert(words, w, p.word(":", "3", "12", "1", "#", "", "s", "\t", "\xff", "\x00"))
	case 9:
		return s[:b] + p.word(":", " ", "\t", "\n", "#", "\x00", "\xff", "1", "s", "(", "ö", "\r", "\n\n", "\n#", ": ") + s[b:]
	case 10:
		return s[:from] + s[b:]
	default:
		return s[:from] + p.word(":", " ", "\n", "#", "\x00", "\xff", "1", "s", "\r") + s[b:]
	}
	if at < len(l) && len(words) > 0 && w != v {
		l[at] = strings.Join(words, " ")
	}
	return strings.Join(l, "\n")
}

// TestChanged: P13.2, P13.3: texts with one thing changed, or some.
func TestChanged(t *testing.T) {
	p := picker(1313)
	many := map[api.Errno]int{}
	for range 20000 {
		s := textOf(p.grown(1 + p.of(2)))
		for {
			s = p.changed(s)
			if p.of(3) > 0 {
				break
			}
		}
		many[holds(t, s)]++
		if t.Failed() {
			t.FailNow()
		}
	}
	for _, e := range []api.Errno{0, 2, 10, 70, 80, 120, 121, 122, 130} {
		if many[e] < 50 {
			t.Error(many)
		}
	}
}

// TestAllLines: P13.2: all rows of up to four lines out of these, and of five behind a par.
func TestAllLines(t *testing.T) {
	lines := []string{"par 1", "par 5", "par 12", "", " \t", "# x", "s source", "m map s : val", "m map s", "m map s : $", "w window s 3", "t sink s", "t sink m", "t sink w : 1", "m\x01"}
	many := map[api.Errno]int{}
	var grow func(s string, l []string, left int)
	grow = func(s string, l []string, left int) {
		for _, end := range []string{"", "\n"} {
			many[holds(t, s+end)]++
		}
		for _, line := range l {
			if left > 0 && !t.Failed() {
				grow(strings.TrimPrefix(s+"\n"+line, "\n"), l, left-1)
			}
		}
	}
	grow("", lines, 4)
	few := []string{"", "#", "s source", "m map s : val", "w window m 2", "u union m s", "t sink s", "t sink m", "t sink u", "x"}
	grow("par 3", few, 4)
	grow("par 2\ns source\nm map s : val", few, 4)
	for _, e := range []api.Errno{0, 2, 10, 121, 122, 130} {
		if many[e] < 50 {
			t.Error(many)
		}
	}
}

// TestAllWords: P13.2: all rows of up to five words out of these, as a node's line, and as the first one.
func TestAllWords(t *testing.T) {
	words := []string{"m", "s", "map", "window", "union", "sink", "3", "17", "100", ":", "val", "par", "#"}
	many := map[api.Errno]int{}
	var grow func(s string, left int)
	grow = func(s string, left int) {
		for _, t3 := range []string{"t sink m", "t sink s"} {
			many[holds(t, "par 1\ns source\n"+s+"\n"+t3)]++
		}
		if left >= 2 {
			many[holds(t, s+"\ns source\nt sink s")]++
		}
		for _, w := range words {
			if left > 0 && !t.Failed() {
				grow(strings.TrimPrefix(s+" "+w, " "), left-1)
			}
		}
	}
	grow("", 4)
	for _, ahead := range []string{"m map s : val", "m window s", "m union s", "m"} {
		grow(ahead, 3)
	}
	for _, e := range []api.Errno{0, 70, 80, 120, 122, 130} {
		if many[e] < 10 {
			t.Error(many)
		}
	}
}

// TestAllBytes: P13.2, R1: each byte, and each rune of two bytes, at each place of a text; for another one, and between two.
func TestAllBytes(t *testing.T) {
	s := "par 1\ns source\nm map s : val\nw window m 12\nt sink w"
	for at := range len(s) + 1 {
		for b := range 0x800 {
			r := string(rune(b))
			if b < 256 {
				holds(t, s[:at]+string([]byte{byte(b)})+s[at:])
				holds(t, s[:at]+string([]byte{byte(b)})+s[min(at+1, len(s)):])
			}
			if b < 128 || b%16 == at%16 {
				holds(t, s[:at]+r+s[at:])
			}
		}
		holds(t, s[:at])
		holds(t, s[at:])
		if t.Failed() {
			t.FailNow()
		}
	}
}

// TestAnything: R1: whatever bytes and pieces.
func TestAnything(t *testing.T) {
	p := picker(3)
	pieces := []string{"par", "1", "12", " ", " ", " ", "\t", "\n", "\n", "\n", ":", "#", "s", "t", "m", "source", "map", "window", "sink", "union", "val", "s source\n", "par 1\n", "m map s : val\n", "t sink s", "\xff", "\x00", "\xe2\x82", "\u2028", "\u00a0", "\r"}
	many := map[api.Errno]int{}
	for range 60000 {
		s := p.word("", "par 1\n", "par 1\ns source\n")
		for range p.of(12) {
			if p.of(20) == 0 {
				s += string([]byte{byte(p.of(256))})
			} else {
				s += pieces[p.of(len(pieces))]
			}
		}
		many[holds(t, s)]++
		if t.Failed() {
			t.FailNow()
		}
	}
	if many[0] < 50 || many[130] < 1000 || many[10] < 1000 {
		t.Error(many)
	}
}

// TestMuch: R1: texts of many bytes, lines, words, and nodes.
func TestMuch(t *testing.T) {
	ask := func(s string) {
		t.Helper()
		holds(t, s)
		holds(t, "par 1\n"+s)
		holds(t, "par 1\ns source\n"+s)
	}
	for _, piece := range []string{"\n", "a\n", "s sink\n", "s source\n", "m map s : val\n", "m map s:" + strings.Repeat("(", 390) + "\n", "m union" + strings.Repeat(" s", 190) + "\n", ":", ":\n", "#", " ", "\x00", "\xff", "ö"} {
		for _, many := range []int{65536, 65515, 65000, 30000, 401, 400, 65537, 1 << 20} {
			ask(strings.Repeat(piece, many/len(piece)))
		}
	}
	s := "par 1\n"
	for i := 0; len(s) < 30000; i++ {
		s += "n" + strconv.Itoa(i) + " sink\n"
	}
	for len(s) < 65000 {
		s += "x union" + strings.Repeat(" n2000", 60) + "\n"
	}
	wrong(t, s, 0, api.ErrArg)
	wrong(t, s+"x", strings.Count(s, "\n")+1, api.ErrLine)
	wrong(t, s+"x sink n2001 n99999", strings.Count(s, "\n")+1, api.ErrLine)
	long := strings.Repeat("a", 1<<22)
	untold(t, jobOf(source(long), sink(long, 0)), api.ErrArg)
	untold(t, api.Job{Par: 1, Nodes: make([]api.Node, 1<<16)}, api.ErrArg)
	untold(t, jobOf(source("s"), union("u", make([]int, 1<<20)...), sink("t", 1)), api.ErrArg)
}

// TestAnyJob: R1, P13.1: jobs whose nodes have whatever they have.
func TestAnyJob(t *testing.T) {
	p := picker(7)
	many := map[api.Errno]int{}
	for range 20000 {
		j := p.grown(2)
		for range 1 + p.of(2) {
			n := &j.Nodes[p.of(len(j.Nodes))]
			switch p.of(9) {
			case 0:
				j.Par = p.of(7) - 1
			case 1:
				n.Uid = p.word("", "7", "a b", "\xff", "ß", "a:", "#", j.Nodes[0].Uid, "a\n")
			case 2:
				n.Kind = uint8(p.of(256))
			case 3:
				n.Kind = uint8(p.of(11))
			case 4:
				n.In = append(n.In, p.of(13)-1)
			case 5:
				n.In = n.In[:len(n.In)/2]
			case 6:
				n.X = p.typed(1+p.of(2), 1+p.of(3), p.of(2) == 0)
			case 7:
				n.X.Op = uint8(p.of(20))
			default:
				n.N = p.of(20) - 1
			}
		}
		many[holdsText(t, j)]++
		if t.Failed() {
			t.FailNow()
		}
	}
	if many[0] < 300 || many[2] < 5000 {
		t.Error(many)
	}
}

// TestKept: R3: what is handed in is not changed, nor what stands behind a list's end; that is no part of it.
func TestKept(t *testing.T) {
	nodes := []api.Node{source("s"), mapped("m", 0), union("u", 1, 0), sink("t", 2), sink("x", 2)}
	in, args := []int{1, 0, 77}, []api.Expr{val, key, {Op: 99}}
	nodes[2].In, nodes[1].X = in[:2], api.Expr{Op: 7, Args: args[:2]}
	told(t, jobOf(nodes[:4]...), text("par 1", "s source", "m map s : (val + key)", "u union m s", "t sink u"))
	untold(t, jobOf(nodes[:3]...), api.ErrArg)
	untold(t, jobOf(nodes...), api.ErrArg)
	if !slices.Equal(in, []int{1, 0, 77}) || !slices.EqualFunc(args, []api.Expr{val, key, {Op: 99}}, alike) || nodes[4].Uid != "x" || nodes[4].In[0] != 2 {
		t.Error(nodes, in, args)
	}
}

// TestAgain: R5: what was asked before makes no difference; what was answered is nobody else's.
func TestAgain(t *testing.T) {
	p := picker(55)
	var texts []string
	for len(texts) < 100 {
		s := p.changed(textOf(p.grown(2)))
		if p.of(3) > 0 {
			s = textOf(p.grown(2))
		}
		texts = append(texts, s)
	}
	for range 2000 {
		s := texts[p.of(len(texts))]
		holds(t, s)
		j, _, e := script.Parse(s)
		for i := range j.Nodes {
			for k := range j.Nodes[i].In {
				j.Nodes[i].In[k] = 7
			}
			for k := range j.Nodes[i].X.Args {
				j.Nodes[i].X.Args[k] = acc
			}
			j.Nodes[i] = api.Node{Uid: "x"}
		}
		if e == api.OK {
			holds(t, s)
		}
	}
}

// TestShared: R1, P13.1: expressions whose Args are shared on all levels.
func TestShared(t *testing.T) {
	for op := uint8(5); op <= 18; op++ {
		many := []int{1, 1, 2, 2, 2, 2, 2, 2, 2, 2, 2, 2, 2, 3}[op-5]
		x := key
		for deep := 1; deep <= 70; deep++ {
			j := between(mapped("m", 0))
			j.Nodes[1].X = x
			_, e := job.May(j)
			switch {
			case e != api.OK:
				untold(t, j, api.ErrArg)
			case len(line(x)) > 400:
				untold(t, j, api.ErrWide)
			default:
				both(t, j, text("par 1", "s source", "m map s : "+line(x), "t sink m"))
				if !kind.Is(x, false, api.TyInt) {
					t.Error(op, deep)
				}
			}
			x = of(op, slices.Repeat([]api.Expr{x}, many)...)
		}
	}
}

// TestEndless: R1: expressions that have themselves in them, that are much too deep, or have many Args.
func TestEndless(t *testing.T) {
	ask := func(x api.Expr) {
		t.Helper()
		for kind := range uint8(11) {
			j := between(api.Node{Uid: "x", Kind: kind, In: []int{0}, X: x})
			untold(t, j, api.ErrArg)
			j.Nodes[0].X, j.Nodes[2].X = x, x
			untold(t, j, api.ErrArg)
		}
	}
	for _, op := range []uint8{0, 1, 5, 7, 18, 19, 255} {
		for many := 1; many <= 4; many++ {
			ring := make([]api.Expr, many)
			for i := range ring {
				ring[i] = of(op, ring...)
			}
			ask(ring[0])
			ask(of(5, ring[0]))
			ask(of(7, key, ring[0]))
		}
		x := key
		for range 1 << 12 {
			x = of(op, x)
		}
		ask(x)
	}
	ask(of(7, slices.Repeat([]api.Expr{key}, 1<<12)...))
}
