package script

import (
	"strings"

	"changeling/api"
	"changeling/expr"
	"changeling/job"
	"changeling/names"
)

// blanks are what may stand between words (1).
const blanks = " \t"

// reader puts a job together, line by line.
type reader struct {
	job  api.Job
	said []int // the numbers of the lines that were taken: par's, then one a node
}

// lines are those of s; the last one, which may be empty, lacks its byte 10.
func lines(s string) []string {
	var l []string
	begin := 0
	for i, r := range s {
		if r == '\n' {
			l = append(l, s[begin:i])
			begin = i + 1
		}
	}
	return append(l, s[begin:])
}

func saysNothing(line string) bool {
	return strings.HasPrefix(line, "#") || strings.Trim(line, blanks) == ""
}

// take takes the next line that says something.
func (r *reader) take(line string) api.Errno {
	ahead, text, colon := strings.Cut(line, ":")
	words, e := names.Words(ahead)
	switch {
	case e != api.OK:
		return e
	case len(r.said) > 0:
		return r.node(words, text, colon)
	case colon || !r.par(words):
		return api.ErrLine
	}
	return api.OK
}

// par takes the first line's words; false, if they are not as told.
func (r *reader) par(words []string) (ok bool) {
	if len(words) != 2 || words[0] != parWord {
		return false
	}
	r.job.Par, ok = number(words[1], 1)
	return ok
}

// node takes a node's words, and the text of its X, that stands behind the colon.
func (r *reader) node(words []string, text string, colon bool) api.Errno {
	n, ok := r.told(words)
	if !ok || colon != kinds[n.Kind].x {
		return api.ErrLine
	}
	if colon {
		var e api.Errno
		n.X, _, e = expr.Parse(strings.TrimLeft(text, blanks))
		if e != api.OK {
			return e
		}
	}
	r.job.Nodes = append(r.job.Nodes, n)
	return api.OK
}

// told is the node that the words tell, without its X; false, if they are not as told.
func (r *reader) told(words []string) (n api.Node, ok bool) {
	if len(words) < 2 {
		return api.Node{}, false
	}
	n.Uid = words[0]
	n.Kind, ok = kindOf(words[1])
	uids := words[2:]
	if ok && kinds[n.Kind].n {
		uids, n.N, ok = cutNumber(uids)
	}
	for _, uid := range uids {
		at := job.Find(r.job, uid)
		ok = ok && at >= 0
		n.In = append(n.In, at)
	}
	return n, ok
}

// whole is the job, behind the last line.
func (r *reader) whole() (api.Job, int, api.Errno) {
	if len(r.said) == 0 {
		return api.Job{}, 0, api.ErrLine
	}
	switch at, e := job.May(r.job); e {
	case api.OK:
		return r.job, 0, api.OK
	case api.ErrArg:
		return api.Job{}, 0, api.ErrArg
	default:
		return api.Job{}, r.said[1+at], e
	}
}

// kindOf is the kind of which it is the word; false, if it is none's.
func kindOf(word string) (uint8, bool) {
	for kind := api.NdSource; kind <= api.NdSink; kind++ {
		if kinds[kind].word == word {
			return kind, true
		}
	}
	return 0, false
}

// cutNumber tells the words ahead of the number at their end, and this; false, if there is none.
func cutNumber(words []string) ([]string, int, bool) {
	last := len(words) - 1
	if last < 0 {
		return nil, 0, false
	}
	n, ok := number(words[last], 2)
	return words[:last], n, ok
}

// number is what a word of so many digits at most tells; false, if it is none.
func number(word string, most int) (int, bool) {
	n := 0
	for i, r := range word {
		if i == most || r < '0' || r > '9' {
			return 0, false
		}
		n = 10*n + int(r-'0')
	}
	return n, true
}
