package table

import (
	"changeling/api"
	"changeling/bytes"
)

// Take: P16.3.
func Take(s string) (*Table, api.Errno) {
	t, r := New(), &reader{rest: s}
	var last int64
	for i := range r.within(api.Groups * api.MaxKeys) {
		key, c := r.number(), r.cell()
		if r.fault != api.OK {
			break
		}
		if i > 0 && !ahead(last, key) || t.Put(key, c) != api.OK {
			return nil, api.ErrForm
		}
		last = key
	}
	switch {
	case r.fault != api.OK:
		return nil, r.fault
	case r.rest != "":
		return nil, api.ErrForm
	}
	return t, api.OK
}

// reader reads numbers, one behind the other. Behind the first fault all are 0.
type reader struct {
	rest  string
	fault api.Errno // the first one
}

func (r *reader) number() int64 {
	if r.fault != api.OK {
		return 0
	}
	n, size, e := bytes.Take(r.rest)
	r.rest, r.fault = r.rest[size:], e
	return n
}

// within reads a number from 0 to most; if it is another one, that is a fault.
func (r *reader) within(most int64) int64 {
	n := r.number()
	if n < 0 || n > most {
		r.fault = api.ErrForm
		return 0
	}
	return n
}

// cell reads an Acc, how many numbers its L has, and these.
func (r *reader) cell() api.Cell {
	c := api.Cell{Acc: r.number()}
	for range r.within(api.MaxWindow) {
		c.L = append(c.L, r.number())
	}
	return c
}
