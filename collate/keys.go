package collate

import (
	"cmp"
	"math"
)

// maxKey is how many bytes a key has at most, the letter of its kind among them.
const maxKey = 40

const (
	numberSize = 8
	pointSize  = 16
)

// key is a key that was read.
type key interface {
	// against tells how the key stands to another one, which must be of its own kind.
	against(other key) int
}

type (
	number int64
	point  complex128
	text   string
)

// rank is where a kind of keys stands among the kinds.
type rank int

const (
	numbers rank = iota
	points
	texts
)

// readKey answers the key that s spells, and whether it spells one.
func readKey(s string) (key, bool) {
	if s == "" || len(s) > maxKey {
		return nil, false
	}
	kind, body := s[0], s[1:]
	switch {
	case kind == 'n' && len(body) == numberSize:
		return number(readWord(body)), true
	case kind == 'p' && len(body) == pointSize:
		half := pointSize / 2
		return point(complex(readFloat(body[:half]), readFloat(body[half:]))), true
	case kind == 't':
		return text(body), true
	}
	return nil, false
}

func isKey(s string) bool {
	_, ok := readKey(s)
	return ok
}

// readWord reads a word, the highest byte first.
func readWord(s string) uint64 {
	n := uint64(0)
	for i := range len(s) {
		n = n<<8 | uint64(s[i])
	}
	return n
}

func readFloat(s string) float64 { return math.Float64frombits(readWord(s)) }

func rankOf(k key) rank {
	switch k.(type) {
	case number:
		return numbers
	case point:
		return points
	}
	return texts
}

// compareKeys is the order of keys: -1, 0 or 1.
func compareKeys(a key, b key) int {
	if way := cmp.Compare(rankOf(a), rankOf(b)); way != 0 {
		return way
	}
	return a.against(b)
}

func (n number) against(other key) int { return cmp.Compare(n, other.(number)) }

// against leans on cmp.Compare's order of floats, which is the one asked for: what is no number comes first and together, and so do 0 and -0.
func (p point) against(other key) int {
	o := other.(point)
	if way := cmp.Compare(real(p), real(o)); way != 0 {
		return way
	}
	return cmp.Compare(imag(p), imag(o))
}

func (t text) against(other key) int { return cmp.Compare(t, other.(text)) }
