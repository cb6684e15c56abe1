package expr

import (
	"slices"

	"changeling/api"
)

// noBound is more than the signs that a row of one level has.
const noBound = api.MaxText

// reader goes on from token to token, and stays at the first one that may not stand where it stands.
type reader struct {
	tokens []api.Token
	next   int
	end    int // the place of the text's end
}

// rule reads what one of the chapter's rules tells; false, if the next token may not stand there.
type rule func() (api.Expr, bool)

func (r *reader) or() (api.Expr, bool)   { return r.level(r.and, noBound, "|") }
func (r *reader) and() (api.Expr, bool)  { return r.level(r.cmp, noBound, "&") }
func (r *reader) cmp() (api.Expr, bool)  { return r.level(r.sum, 1, "<", "<=", "=", "!=") }
func (r *reader) sum() (api.Expr, bool)  { return r.level(r.term, noBound, "+", "-") }
func (r *reader) term() (api.Expr, bool) { return r.level(r.unary, noBound, "*", "/", "%") }

// level reads parts with such signs between them, of which there are most at most.
func (r *reader) level(part rule, most int, signs ...string) (api.Expr, bool) {
	x, ok := part()
	for ; ok && most > 0 && slices.Contains(signs, r.token().Text); most-- {
		op := ofTwo(r.token().Text)
		r.next++
		var second api.Expr
		second, ok = part()
		x = api.Expr{Op: op, Args: []api.Expr{x, second}}
	}
	return x, ok
}

func (r *reader) unary() (api.Expr, bool) {
	op := api.ExNeg
	switch {
	case r.takes("-"):
	case r.takes("!"):
		op = api.ExNot
	default:
		return r.one()
	}
	x, ok := r.unary()
	return api.Expr{Op: op, Args: []api.Expr{x}}, ok
}

func (r *reader) one() (api.Expr, bool) {
	t := r.token()
	switch {
	case t.Kind == api.TkNum:
		r.next++
		return api.Expr{Op: api.ExNum, N: t.N}, true
	case r.takes("key"):
		return api.Expr{Op: api.ExKey}, true
	case r.takes("val"):
		return api.Expr{Op: api.ExVal}, true
	case r.takes("acc"):
		return api.Expr{Op: api.ExAcc}, true
	case r.takes("("):
		x, ok := r.or()
		return x, ok && r.takes(")")
	case t.Text == "if":
		return r.choice()
	}
	return api.Expr{}, false
}

func (r *reader) choice() (api.Expr, bool) {
	x := api.Expr{Op: api.ExIf, Args: make([]api.Expr, 3)}
	for i, word := range [...]string{"if", "then", "else"} {
		ok := r.takes(word)
		if ok {
			x.Args[i], ok = r.or()
		}
		if !ok {
			return api.Expr{}, false
		}
	}
	return x, true
}

// token is the next one; at the text's end one of no kind.
func (r *reader) token() api.Token {
	if r.next == len(r.tokens) {
		return api.Token{At: r.end}
	}
	return r.tokens[r.next]
}

// takes goes on behind the next token, if it is that name or sign.
func (r *reader) takes(text string) bool {
	if r.token().Text != text {
		return false
	}
	r.next++
	return true
}

// ofTwo is the Op that a sign between two tells.
func ofTwo(sign string) uint8 {
	switch sign {
	case "+":
		return api.ExAdd
	case "-":
		return api.ExSub
	case "*":
		return api.ExMul
	case "/":
		return api.ExDiv
	case "%":
		return api.ExMod
	case "<":
		return api.ExLess
	case "<=":
		return api.ExLeq
	case "=":
		return api.ExEq
	case "!=":
		return api.ExNe
	case "&":
		return api.ExAnd
	}
	return api.ExOr
}
