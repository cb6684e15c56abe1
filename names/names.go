// Package names is layer 1: see shared/doc/01-names.md.
package names

import (
	"unicode/utf8"

	"changeling/api"
)

// Name: P1.1.
func Name(s string) bool {
	many := 0
	for _, r := range s {
		if !letter(r) && (many == 0 || !digit(r) && r != '-') {
			return false
		}
		many++
		if many > api.MaxName {
			return false
		}
	}
	return many > 0
}

// Many: P1.1.
func Many(s string) int {
	many := 0
	for range s {
		many++
	}
	return many
}

// Words: P1.2.
func Words(s string) ([]string, api.Errno) {
	if len(s) > api.MaxText {
		return nil, api.ErrLong
	}
	var l []string
	begin, within := 0, false
	for i, r := range s {
		switch {
		case !mayStand(r):
			return nil, api.ErrRune
		case blank(r) && within:
			l = append(l, s[begin:i])
			within = false
		case !blank(r) && !within:
			begin, within = i, true
		}
	}
	if within {
		l = append(l, s[begin:])
	}
	return l, api.OK
}

// At: P1.2.
func At(s string, n int) (rune, int, api.Errno) {
	ahead := 0
	for i, r := range s {
		if ahead == n {
			return r, i, api.OK
		}
		ahead++
	}
	return 0, 0, api.ErrArg
}

// Turned: P1.3.
func Turned(s string) (string, api.Errno) {
	if !Name(s) {
		return "", api.ErrArg
	}
	turned := ""
	for _, r := range s {
		turned = string(r) + turned
	}
	if !Name(turned) {
		return s, api.OK
	}
	return turned, api.OK
}

// letter takes U+FFFD out because bytes that are no UTF-8 are told as it.
func letter(r rune) bool {
	return 'a' <= r && r <= 'z' || 'A' <= r && r <= 'Z' || r > '\u00bf' && r != utf8.RuneError
}

func digit(r rune) bool { return '0' <= r && r <= '9' }

func blank(r rune) bool { return r == ' ' || r == '\t' }

// mayStand: whether a text of words may have the rune.
func mayStand(r rune) bool {
	return r != utf8.RuneError && (r >= ' ' || r == '\t')
}
