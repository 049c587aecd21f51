package collate

import (
	"cmp"
	"container/heap"
)

// waiting is a record that waits to be written.
type waiting struct {
	entry
	run     int // the number of the run that it goes into
	arrival int // how many records came ahead of it
}

// queue is a heap of waiting records: the one that is to be written next is on top.
type queue []waiting

func (q queue) Len() int { return len(q) }

func (q queue) Less(i int, j int) bool {
	a, b := q[i], q[j]
	return cmp.Or(cmp.Compare(a.run, b.run), compareKeys(a.place, b.place), cmp.Compare(a.arrival, b.arrival)) < 0
}

func (q queue) Swap(i int, j int) { q[i], q[j] = q[j], q[i] }

func (q *queue) Push(x any) { *q = append(*q, x.(waiting)) }

func (q *queue) Pop() any {
	last := len(*q) - 1
	w := (*q)[last]
	*q = (*q)[:last]
	return w
}

// runMaker makes runs: of the records that wait it writes the first one that the newest run can still take; when there is none, it begins another run.
type runMaker struct {
	*sorter
	waits   queue
	size    int // how many bytes the waiting records have
	arrived int
	out     *writer // the newest run
	runs    []int
}

// makeRuns writes the records of a file into files that are in order each: runs. Of records that stand together, none is in an earlier run than one that came ahead of it.
func (s *sorter) makeRuns(in int, blocks int) []int {
	m := runMaker{sorter: s}
	m.beginRun()
	room := m.roomFor(blocks)
	for e := range entries(s.pieces(in, blocks)) {
		m.take(e)
		for m.size > room {
			m.writeNext()
		}
	}
	for len(m.waits) > 0 {
		m.writeNext()
	}
	m.out.end()
	return m.runs
}

// roomFor answers how many bytes may wait: those of the blocks that may be held, but for the one that is read and the one that is written. More than the file has are not needed (and could be more than an int tells).
func (m *runMaker) roomFor(blocks int) int {
	return pieceSize * min(m.disk.May()-2, blocks)
}

func (m *runMaker) beginRun() {
	m.out = m.newWriter(m.once)
	m.runs = append(m.runs, m.out.file)
}

// take lets a record wait for the newest run, or for the one behind it, if the newest one is past its place.
func (m *runMaker) take(e entry) {
	run := len(m.runs)
	if m.out.last != nil && compareKeys(e.place, m.out.last) < 0 {
		run++
	}
	heap.Push(&m.waits, waiting{entry: e, run: run, arrival: m.arrived})
	m.arrived++
	m.size += e.size()
}

func (m *runMaker) writeNext() {
	w := heap.Pop(&m.waits).(waiting)
	m.size -= w.size()
	if w.run > len(m.runs) {
		m.out.end()
		m.beginRun()
	}
	m.out.write(w.entry)
}
