package expr_test

import (
	"maps"
	"slices"
	"strings"
	"testing"
	"unicode/utf8"

	"changeling/api"
	"changeling/expr"
	"changeling/lex"
)

// rules: the chapter's, by what each may go on with; what may stand any number of times, or once or not, is a rule of its own.
var rules = map[string][]string{
	"or": {"and ors"}, "ors": {"", "| and ors"},
	"and": {"cmp ands"}, "ands": {"", "& cmp ands"},
	"cmp": {"sum cmps"}, "cmps": {"", "< sum", "<= sum", "= sum", "!= sum"},
	"sum": {"term sums"}, "sums": {"", "+ term sums", "- term sums"},
	"term": {"unary terms"}, "terms": {"", "* unary terms", "/ unary terms", "% unary terms"},
	"unary": {"- unary", "! unary", "one"},
	"one":   {"number", "key", "val", "acc", "( or )", "if or then or else or"},
}

// texts is all that a row of tokens may go on with: each a row of rules and words, the first of them a word.
type texts map[string]bool

// whole: what all texts are.
func whole() texts { return opened("or") }

// opened takes rows apart until each begins with a word.
func opened(rows ...string) texts {
	all := texts{}
	for len(rows) > 0 {
		row := rows[len(rows)-1]
		rows = rows[:len(rows)-1]
		first, rest, _ := strings.Cut(row, " ")
		if rules[first] == nil {
			all[row] = true
		}
		for _, r := range rules[first] {
			rows = append(rows, strings.TrimSpace(r+" "+rest))
		}
	}
	return all
}

// behind is what may stand behind one more token; nothing, if no text goes on with it.
func (l texts) behind(token string) texts {
	var rows []string
	for row := range l {
		if first, rest, _ := strings.Cut(row, " "); first == token || first == "number" && token != "" && token[0] <= '9' && token[0] >= '0' {
			rows = append(rows, rest)
		}
	}
	return opened(rows...)
}

// ends: whether a text may end there.
func (l texts) ends() bool { return l[""] }

// told is an expression that a row of tokens may tell, and of each else, by its place, how many tokens it takes.
type told struct {
	x     api.Expr
	takes []int
}

// teller tells all expressions that parts of a row of tokens may tell, by each rule.
type teller struct {
	tokens []string
	met    map[[3]int][]told
}

const (
	byOr = iota
	byAnd
	byCmp
	bySum
	byTerm
	byUnary
	byOne
)

// best is the one of which the elses take the most, the first of them ahead of the others; it must be the only one of these.
func best(t *testing.T, tokens []string) api.Expr {
	t.Helper()
	w := teller{tokens, map[[3]int][]told{}}
	all := w.by(byOr, 0, len(tokens))
	if len(all) == 0 {
		t.Fatalf("%q tells nothing", tokens)
	}
	slices.SortFunc(all, func(a, b told) int { return slices.Compare(b.takes, a.takes) })
	if len(all) > 1 && slices.Equal(all[0].takes, all[1].takes) {
		t.Fatalf("%q tells two", tokens)
	}
	return all[0].x
}

// by tells what the tokens from i to j - 1 may tell by a rule.
func (w *teller) by(rule, i, j int) []told {
	if i >= j {
		return nil
	}
	at := [3]int{rule, i, j}
	if l, ok := w.met[at]; ok {
		return l
	}
	var l []told
	switch rule {
	case byUnary:
		l = w.by(byOne, i, j)
		if op, ok := map[string]uint8{"-": 5, "!": 6}[w.tokens[i]]; ok {
			l = slices.Concat(l, w.join(op, w.by(byUnary, i+1, j)))
		}
	case byOne:
		l = w.one(i, j)
	default:
		l = w.by(rule+1, i, j)
		left := rule
		if rule == byCmp {
			left = bySum
		}
		for k := i + 1; k < j-1; k++ {
			if slices.Contains(twos[rule], w.tokens[k]) {
				l = slices.Concat(l, w.join(opOf[w.tokens[k]], w.by(left, i, k), w.by(rule+1, k+1, j)))
			}
		}
	}
	w.met[at] = l
	return l
}

func (w *teller) one(i, j int) []told {
	none := make([]int, len(w.tokens))
	first := w.tokens[i]
	switch {
	case j == i+1 && first[0] >= '0' && first[0] <= '9':
		n := int64(0)
		for _, r := range first {
			n = 10*n + int64(r-'0')
		}
		return []told{{num(n), none}}
	case j == i+1 && (first == "key" || first == "val" || first == "acc"):
		return []told{{map[string]api.Expr{"key": key, "val": val, "acc": acc}[first], none}}
	case first == "(" && w.tokens[j-1] == ")":
		return w.by(byOr, i+1, j-1)
	case first != "if":
		return nil
	}
	var l []told
	for k := i + 1; k < j; k++ {
		for m := k + 1; m < j && w.tokens[k] == "then"; m++ {
			if w.tokens[m] == "else" {
				for _, x := range w.join(18, w.by(byOr, i+1, k), w.by(byOr, k+1, m), w.by(byOr, m+1, j)) {
					x.takes[m] = j - m
					l = append(l, x)
				}
			}
		}
	}
	return l
}

// join makes an expression of each choice of Args.
func (w *teller) join(op uint8, args ...[]told) []told {
	l := []told{{api.Expr{Op: op}, make([]int, len(w.tokens))}}
	for _, some := range args {
		var more []told
		for _, a := range l {
			for _, b := range some {
				x := told{of(op, append(slices.Clone(a.x.Args), b.x)...), slices.Clone(a.takes)}
				for i, n := range b.takes {
					x.takes[i] += n
				}
				more = append(more, x)
			}
		}
		l = more
	}
	return l
}

// spelled tells a row of tokens as a text, and where each of them stands in it.
func spelled(tokens []string, between func(i int) string) (s string, at []int) {
	for i, token := range tokens {
		if i > 0 {
			s += between(i)
		}
		at = append(at, utf8.RuneCountInString(s))
		s += token
	}
	return s, at
}

func blank(int) string { return " " }

// holds holds Parse against the chapter's words, for a row of tokens of which all but the last one are known to go on to a text; it answers what may stand behind.
func holds(t *testing.T, tokens []string, ahead texts) texts {
	t.Helper()
	s, at := spelled(tokens, blank)
	behind := ahead.behind(tokens[len(tokens)-1])
	switch {
	case len(behind) == 0:
		refused(t, s, at[len(at)-1], api.ErrSyntax)
		refused(t, "\t"+s+" 1 )", at[len(at)-1]+1, api.ErrSyntax)
	case !behind.ends():
		refused(t, s, len(s), api.ErrSyntax)
		refused(t, " "+s+"\t ", len(s)+3, api.ErrSyntax)
	default:
		x := best(t, tokens)
		reads(t, s, x)
		reads(t, "("+s+")", x)
	}
	if t.Failed() {
		t.FailNow()
	}
	return behind
}

// TestSmallTexts: P8.1, P8.3: all rows of at most six of these tokens that texts go on with so, and each of them with one token that none does.
func TestSmallTexts(t *testing.T) {
	parts := []string{"1", "key", "-", "!", "*", "+", "<", "=", "&", "|", "(", ")", "if", "then", "else", "x"}
	many := [3]int{}
	var grow func(tokens []string, ahead texts)
	grow = func(tokens []string, ahead texts) {
		for _, p := range parts {
			longer := append(slices.Clone(tokens), p)
			behind := holds(t, longer, ahead)
			switch {
			case len(behind) == 0:
				many[0]++
			case behind.ends():
				many[1]++
			default:
				many[2]++
			}
			if len(behind) > 0 && len(longer) < 6 {
				grow(longer, behind)
			}
		}
	}
	grow(nil, whole())
	for _, n := range many {
		if n < 1000 {
			t.Error(many)
		}
	}
}

// TestIfTexts: P8.1: all rows of such pieces that go on from these, where elses and comparisons meet.
func TestIfTexts(t *testing.T) {
	pieces := []string{"1", "< 1", "= 1", "+ 1", "& 1", "* - 1", "if 1 then 2 else 3", "<", "then 1", "else 1", "| if 1 then 2 else 3", "( 1", ")"}
	whole, all := 0, 0
	var grow func(tokens []string, ahead texts, left int)
	grow = func(tokens []string, ahead texts, left int) {
		for _, p := range pieces {
			longer, behind := slices.Clone(tokens), ahead
			for _, token := range strings.Fields(p) {
				if longer = append(longer, token); len(behind) > 0 {
					behind = holds(t, longer, behind)
				}
			}
			all++
			if behind.ends() {
				whole++
			}
			if len(behind) > 0 && left > 1 {
				grow(longer, behind, left-1)
			}
		}
	}
	for _, s := range []string{
		"if 1 then 2 else", "1 < if 1 then 2 else 3", "- if 1 then 2 else 3", "if 1 then 2 else if 1 then 2 else 3 <", "1 < if 1 then 2 else if 3 then 4 else 5 < 6",
		"1 & ( if 1 then 2 else 3", "if if 1 then 2 else 3", "if 1 then if 2 then 3 else 4 <", "1 + if 1 < 2 then 3 = 4 else 5 *",
	} {
		tokens, ahead := strings.Fields(s), opened("or")
		for _, token := range tokens {
			ahead = ahead.behind(token)
		}
		grow(tokens, ahead, 4)
	}
	if whole < 5000 || all > 5*whole {
		t.Error(whole, all)
	}
}

// picker picks numbers from one start.
type picker uint64

func (p *picker) of(n int) int {
	*p = *p*6364136223846793005 + 1442695040888963407
	return int(uint64(*p) >> 33 % uint64(n))
}

// grown is an expression of at most so many levels.
func (p *picker) grown(deep int) api.Expr {
	op := uint8(1 + p.of(18))
	if deep == 1 || p.of(8) == 0 {
		op = uint8(1 + p.of(4))
	}
	x := api.Expr{Op: op}
	for range counts(int(op)) {
		x.Args = append(x.Args, p.grown(deep-1))
	}
	if op == 1 {
		x.N = int64(p.of(1 << p.of(31)))
	}
	return x
}

// levelOf: the rule that tells an Op.
func levelOf(op uint8) int {
	switch {
	case op == 17:
		return byOr
	case op == 16:
		return byAnd
	case op >= 12 && op < 16:
		return byCmp
	case op == 7 || op == 8:
		return bySum
	case op >= 9 && op < 12:
		return byTerm
	case op == 5 || op == 6:
		return byUnary
	}
	return byOne
}

// tokensOf tells an expression by no more parentheses than must be, and by such as make no difference as spare says; open: what stands behind could go to an else of it.
func tokensOf(x api.Expr, level int, open bool, spare func() bool) []string {
	if levelOf(x.Op) < level || x.Op == 18 && open || spare() {
		return slices.Concat([]string{"("}, tokensOf(x, byOr, false, spare), []string{")"})
	}
	part := func(i, level int, open bool) []string { return tokensOf(x.Args[i], level, open, spare) }
	for sign, op := range opOf {
		if op == x.Op {
			left := max(levelOf(op), level)
			if levelOf(op) == byCmp {
				left = bySum
			}
			return slices.Concat(part(0, left, true), []string{sign}, part(1, levelOf(op)+1, open))
		}
	}
	switch x.Op {
	case 1:
		s, n := "", x.N
		for ; n > 0 || s == ""; n /= 10 {
			s = string(rune('0'+n%10)) + s
		}
		return []string{s}
	case 5:
		return slices.Concat([]string{"-"}, part(0, byUnary, open))
	case 6:
		return slices.Concat([]string{"!"}, part(0, byUnary, open))
	case 18:
		return slices.Concat([]string{"if"}, part(0, byOr, false), []string{"then"}, part(1, byOr, false), []string{"else"}, part(2, byOr, false))
	}
	return []string{map[uint8]string{2: "key", 3: "val", 4: "acc"}[x.Op]}
}

// TestGrown: P8.1, P8.3: expressions of all kinds, told by no more parentheses than must be, and by more; with no more blanks than must be, and with more; and such texts with a token wrong.
func TestGrown(t *testing.T) {
	p := picker(8)
	never := func() bool { return false }
	read, wrong := 0, 0
	for range 20000 {
		x := p.grown(1 + p.of(1+p.of(16)))
		tokens := tokensOf(x, byOr, false, never)
		s, _ := spelled(tokens, blank)
		if len(s) > api.MaxText {
			continue
		}
		read++
		reads(t, s, x)
		tight, _ := spelled(tokens, func(i int) string { return gap(tokens[i-1], tokens[i]) })
		reads(t, tight, x)
		spare := tokensOf(x, byOr, false, func() bool { return p.of(4) == 0 })
		if wide, _ := spelled(spare, func(i int) string { return gap(spare[i-1], spare[i]) + strings.Repeat("\t ", p.of(2)) }); len(wide) <= api.MaxText {
			reads(t, wide, x)
		}
		if wronged(t, &p, tokens) {
			wrong++
		}
		if t.Failed() {
			t.Fatal(line(x))
		}
	}
	if read < 10000 || wrong < 5000 {
		t.Error(read, wrong)
	}
}

// gap is what must stand between two tokens at least.
func gap(a, b string) string {
	if l, _, e := lex.Tokens(a + b); e == api.OK && len(l) == 2 && l[1].At == len(a) {
		return ""
	}
	return " "
}

// wronged changes a row of tokens at a place or two, and holds Parse against the rules; it answers whether no text is so.
func wronged(t *testing.T, p *picker, tokens []string) bool {
	t.Helper()
	words := slices.Sorted(maps.Keys(opOf))
	words = append(words, "(", ")", "!", "if", "then", "else", "key", "val", "acc", "7", "x", "\u00df", "iff")
	tokens = slices.Clone(tokens)
	for range 1 + p.of(2) {
		i := p.of(len(tokens))
		switch p.of(4) {
		case 0:
			tokens = slices.Insert(tokens, i, words[p.of(len(words))])
		case 1:
			if tokens = slices.Delete(tokens, i, i+1); len(tokens) == 0 {
				return false
			}
		case 2:
			tokens[i] = words[p.of(len(words))]
		default:
			tokens = tokens[:i+1]
		}
	}
	s, at := spelled(tokens, blank)
	if len(s) > api.MaxText {
		return false
	}
	ahead := whole()
	for i, token := range tokens {
		if ahead = ahead.behind(token); len(ahead) == 0 {
			refused(t, s, at[i], api.ErrSyntax)
			return true
		}
	}
	if !ahead.ends() {
		refused(t, s, utf8.RuneCountInString(s), api.ErrSyntax)
		return true
	}
	x, place, e := expr.Parse(s)
	switch {
	case place != 0 || e != api.OK && e != api.ErrDeep || e == api.OK && !expr.May(x):
		t.Errorf("Parse(%q) = %s, %d, error %d", s, line(x), place, e)
	case len(tokens) > 30:
	case depth(best(t, tokens)) > api.MaxDeep:
		refused(t, s, 0, api.ErrDeep)
	default:
		reads(t, s, best(t, tokens))
	}
	return false
}

// TestEachToken: P8.1: texts of all the chapter's rules, with a token left out, put in, put in its stead, at each place.
func TestEachToken(t *testing.T) {
	parts := []string{"1", "key", "val", "acc", "+", "-", "*", "/", "%", "(", ")", "&", "|", "!", "=", "<", "!=", "<=", "if", "then", "else", "x"}
	for _, s := range []string{
		"1", "- key", "! val", "( acc )", "1 + 2", "1 * 2 / 3 % 4", "1 - 2 + 3", "key < 2", "1 <= val", "1 = 2 & 3 != 4", "key | val | acc", "if key then val else acc",
		"if ( 1 < 2 ) then - 3 + 4 else if 5 then 6 else 7 * 8", "- ( 1 + if key & val then ! acc else 2 <= 3 ) = 4", "( ( key ) )",
	} {
		tokens := strings.Fields(s)
		for i := range len(tokens) + 1 {
			for _, p := range parts {
				row(t, slices.Insert(slices.Clone(tokens), i, p))
				if i < len(tokens) {
					row(t, slices.Replace(slices.Clone(tokens), i, i+1, p))
				}
			}
			if i < len(tokens) {
				row(t, slices.Delete(slices.Clone(tokens), i, i+1))
			}
			row(t, tokens[:i])
			row(t, tokens[i:])
		}
	}
}

// row holds Parse against the rules for a row of tokens.
func row(t *testing.T, tokens []string) {
	t.Helper()
	ahead := whole()
	for i := range tokens {
		if ahead = holds(t, tokens[:i+1], ahead); len(ahead) == 0 {
			return
		}
	}
}

// TestBytes: R1: whatever bytes a text has, the call ends, and tells lex's error, if there is one.
func TestBytes(t *testing.T) {
	check := func(s string) {
		x, at, e := expr.Parse(s)
		if _, place, wrong := lex.Tokens(s); wrong != api.OK && (at != place || e != wrong) {
			t.Fatalf("Parse(%q) = %d, error %d, want %d, error %d", s, at, e, place, wrong)
		}
		switch {
		case e == api.OK && (at != 0 || !expr.May(x)):
			t.Fatalf("Parse(%q) = %s, %d", s, line(x), at)
		case e != api.OK && !zero(x):
			t.Fatalf("Parse(%q) = %s, error %d", s, line(x), e)
		}
	}
	for a := range 256 {
		check(string([]byte{byte(a)}))
		for b := range 256 {
			check(string([]byte{byte(a), byte(b)}))
			check("1" + string([]byte{byte(a), byte(b)}) + "key")
		}
	}
	p := picker(3)
	for range 30000 {
		b := make([]byte, p.of(420))
		for i := range b {
			b[i] = byte(p.of(256))
			if p.of(10) > 0 {
				b[i] = "0179 \tkeyvalacifthnels+-*/%()&|!=<"[p.of(34)]
			}
		}
		check(string(b))
	}
}
