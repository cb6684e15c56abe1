package pack

import (
	"math"

	"changeling/api"
	"changeling/bytes"
)

// maxArgs is how many Args an expression has at most.
const maxArgs = 3

// reader has what reads whatever stands next. Behind the first fault all numbers are 0, and all texts are empty.
type reader struct {
	number func() int64
	within func(most int64, otherwise api.Errno) int64 // a number from 0 to most; if it is another one, that is a fault
	text   func() string
	fault  func() api.Errno // the first one
}

// readerOf reads s from its beginning on.
func readerOf(s string) reader {
	at, fault := 0, api.OK
	number := func() int64 {
		if fault != api.OK {
			return 0
		}
		n, size, e := bytes.Take(s[at:])
		at, fault = at+size, e
		return n
	}
	within := func(most int64, otherwise api.Errno) int64 {
		n := number()
		if n < 0 || n > most {
			fault = otherwise
			return 0
		}
		return n
	}
	text := func() string {
		if fault != api.OK {
			return ""
		}
		told, size, e := bytes.TakeText(s[at:])
		at, fault = at+size, e
		return told
	}
	return reader{number, within, text, func() api.Errno { return fault }}
}

func readJob(r reader) api.Job {
	j := api.Job{Par: int(r.number())}
	j.Nodes = readRow(r, api.MaxNodes, func() api.Node { return readNode(r) })
	return j
}

func readNode(r reader) api.Node {
	n := api.Node{Uid: r.text(), Kind: readByte(r), N: int(r.number())}
	n.In = readRow(r, api.MaxNodes, func() int { return int(r.number()) })
	n.X = readExpr(r, api.MaxDeep+1)
	return n
}

// readExpr reads an expression of so many levels at most.
func readExpr(r reader, levels int) api.Expr {
	x := api.Expr{Op: readByte(r), N: r.number()}
	most := int64(maxArgs)
	if levels == 1 {
		most = 0
	}
	x.Args = readRow(r, most, func() api.Expr { return readExpr(r, levels-1) })
	return x
}

// readByte reads what a Kind or an Op has room for.
func readByte(r reader) uint8 { return uint8(r.within(math.MaxUint8, api.ErrArg)) }

// readRow reads how many there are, and then each of them.
func readRow[T any](r reader, most int64, next func() T) []T {
	var row []T
	for range r.within(most, api.ErrLong) {
		row = append(row, next())
	}
	return row
}
