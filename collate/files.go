package collate

import (
	"iter"
	"slices"
)

const (
	// maxValue is how many bytes a value has at most. It is below 128, as maxKey is, so that every Varint is one byte.
	maxValue = 100

	pieceSize = 60
	sumSize   = 4
)

func hasNoKey(r Record) bool { return !isKey(r.Key) }

func hasLongValue(r Record) bool { return len(r.Value) > maxValue }

// sumOf answers a piece's sum as it is written behind it.
func sumOf(piece string) string {
	n := uint32(1)
	for i := range len(piece) {
		n = n*16777619 ^ uint32(piece[i])
	}
	return string([]byte{byte(n >> 24), byte(n >> 16), byte(n >> 8), byte(n)})
}

// sealAll cuts content into pieces and answers their blocks.
func sealAll(content []byte) []string {
	var blocks []string
	for part := range slices.Chunk(content, pieceSize) {
		piece := string(part)
		blocks = append(blocks, piece+sumOf(piece))
	}
	return blocks
}

// unseal answers the piece in a block, and whether it is one with its sum behind it.
func unseal(block string) (string, bool) {
	size := len(block) - sumSize
	if size < 1 || size > pieceSize {
		return "", false
	}
	piece := block[:size]
	return piece, sumOf(piece) == block[size:]
}

// appendRecord writes a record, whose key and value must have been looked at, behind content.
func appendRecord(content []byte, r Record) []byte {
	content = append(content, byte(len(r.Key)))
	content = append(content, r.Key...)
	content = append(content, byte(len(r.Value)))
	return append(content, r.Value...)
}

// entry is a record and its key as it was read: its place among the others.
type entry struct {
	Record
	place key
}

// size is how many bytes appendRecord writes for the record.
func (e entry) size() int { return 1 + len(e.Key) + 1 + len(e.Value) }

// reader reads a text of records that comes piece by piece.
type reader struct {
	rest  []byte // what came and was not read yet
	short bool   // the newest piece is not a full one: it must be the last
	wrong bool   // whatever comes, this is no text of records
}

func (r *reader) feed(piece string) {
	r.wrong = r.wrong || r.short
	r.short = len(piece) < pieceSize
	if !r.wrong {
		r.rest = append(r.rest, piece...)
	}
}

// hasWhole tells whether the rest begins with a whole record, be it a right one or not.
func (r *reader) hasWhole() bool {
	if r.wrong || len(r.rest) == 0 {
		return false
	}
	valueAt := 1 + int(r.rest[0])
	return len(r.rest) > valueAt && len(r.rest) > valueAt+int(r.rest[valueAt])
}

// read takes the whole record that the rest begins with, and answers it and whether it is a right one.
func (r *reader) read() (entry, bool) {
	var e entry
	var isKey bool
	e.Key = r.field()
	e.Value = r.field()
	e.place, isKey = readKey(e.Key)
	r.wrong = !isKey || hasLongValue(e.Record)
	return e, !r.wrong
}

// field takes a Varint and as many bytes as it says, in memory of their own. A first byte from 128 on begins no length that may stand there; read as a length it is too great for a key and for a value, and so refused as one.
func (r *reader) field() string {
	end := 1 + int(r.rest[0])
	taken := string(r.rest[1:end])
	r.rest = r.rest[end:]
	return taken
}

// entries gives the records of a text that comes in pieces; it panics with ErrData where that is no text of records. It does so behind the last piece only: pieces may panic with ErrSum, which goes ahead of ErrData wherever it stands.
func entries(pieces iter.Seq[string]) iter.Seq[entry] {
	return func(yield func(entry) bool) {
		var r reader
		for piece := range pieces {
			r.feed(piece)
			for r.hasWhole() {
				if e, ok := r.read(); ok && !yield(e) {
					return
				}
			}
		}
		if r.wrong || len(r.rest) > 0 {
			panic(ErrData)
		}
	}
}

// readRecords answers the records of a text, and whether it is one of records.
func readRecords(pieces []string) (list []Record, ok bool) {
	defer func() {
		// Not ErrData alone is caught: no panic may leave a call, whatever its cause.
		if recover() != nil {
			list, ok = nil, false
		}
	}()
	for e := range entries(slices.Values(pieces)) {
		list = append(list, e.Record)
	}
	return list, true
}
