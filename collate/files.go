package collate

import "slices"

const (
	// maxValue is how many bytes a value has at most. It is below 128, as maxKey is, so that every Varint is one byte.
	maxValue = 100

	pieceSize = 60
	sumSize   = 4
)

func hasNoKey(r Record) bool { return !isKey(r.Key) }

func hasLongValue(r Record) bool { return len(r.Value) > maxValue }

// sumOf answers a piece's sum as it is written behind it.
func sumOf(piece string) string {
	n := uint32(1)
	for i := range len(piece) {
		n = n*16777619 ^ uint32(piece[i])
	}
	return string([]byte{byte(n >> 24), byte(n >> 16), byte(n >> 8), byte(n)})
}

// sealAll cuts content into pieces and answers their blocks.
func sealAll(content []byte) []string {
	var blocks []string
	for part := range slices.Chunk(content, pieceSize) {
		piece := string(part)
		blocks = append(blocks, piece+sumOf(piece))
	}
	return blocks
}

// unseal answers the piece in a block, and whether it is one with its sum behind it.
func unseal(block string) (string, bool) {
	size := len(block) - sumSize
	if size < 1 || size > pieceSize {
		return "", false
	}
	piece := block[:size]
	return piece, sumOf(piece) == block[size:]
}

func allFullButLast(blocks []string) bool {
	for i := range len(blocks) - 1 {
		if len(blocks[i]) != pieceSize+sumSize {
			return false
		}
	}
	return true
}

// appendRecord writes a record, whose key and value must have been looked at, behind content.
func appendRecord(content []byte, r Record) []byte {
	content = append(content, byte(len(r.Key)))
	content = append(content, r.Key...)
	content = append(content, byte(len(r.Value)))
	return append(content, r.Value...)
}

// noRecord is what a reader panics with where its text does not go on as one of records does.
type noRecord struct{}

// reader reads a text of records from its beginning on; rest is what it has not read yet.
type reader struct{ rest []byte }

// readRecords answers the records of a text, and whether it is one of records.
func readRecords(content []byte) (list []Record, ok bool) {
	defer func() {
		// Not noRecord alone is caught: no panic may leave a call, whatever its cause.
		if recover() != nil {
			list, ok = nil, false
		}
	}()
	r := reader{rest: content}
	for len(r.rest) > 0 {
		list = append(list, r.record())
	}
	return list, true
}

func (r *reader) record() Record {
	var rec Record
	rec.Key = r.field()
	rec.Value = r.field()
	if hasNoKey(rec) || hasLongValue(rec) {
		panic(noRecord{})
	}
	return rec
}

// field reads a Varint and as many bytes as it says. A first byte from 128 on begins no length that may stand there; read as a length it is too great for a key and for a value, and so refused as one.
func (r *reader) field() string {
	size := int(r.take(1)[0])
	return r.take(size)
}

// take answers the next n bytes in memory of their own.
func (r *reader) take(n int) string {
	if n > len(r.rest) {
		panic(noRecord{})
	}
	taken := string(r.rest[:n])
	r.rest = r.rest[n:]
	return taken
}
