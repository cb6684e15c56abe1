package tell

import (
	"strings"

	"changeling/api"
)

// listener is whom a line is told, piece by piece.
type listener interface {
	WriteString(s string) (int, error)
	Len() int
}

// counter counts the bytes of a line alone, so that none is written that is too wide.
type counter struct{ bytes int }

func (c *counter) WriteString(s string) (int, error) {
	c.bytes += len(s)
	return len(s), nil
}

func (c *counter) Len() int { return c.bytes }

// writer writes a line.
type writer struct{ strings.Builder }

// wide: whether more was told already than a line may have.
func wide(l listener) bool { return l.Len() > api.MaxText }
