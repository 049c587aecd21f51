package collate

import "iter"

// player is a run that plays in a tree: its next record plays for it.
type player struct {
	entry
	next  func() (entry, bool)
	plays bool // it has a record left
}

func (p *player) step() { p.entry, p.plays = p.next() }

// losers is a tree of those that lost: its leaves are the players, at each of its inner nodes stands the one that lost there, and the one that lost nowhere gives its record next. So a player's next record meets one other a level.
type losers struct {
	players []player
	lost    []int // by node: 1 is the root, those below node n are 2n and 2n+1, player i's leaf is node len(players)+i
	winner  int
}

// inOrder gives the records of runs that are in order each, in order; where they stand together, those of an earlier run first.
func (s *store) inOrder(runs []int) iter.Seq[entry] {
	return func(yield func(entry) bool) {
		var t losers
		for _, run := range runs {
			next, stop := iter.Pull(entries(s.pieces(run, s.open[run])))
			defer stop()
			t.players = append(t.players, player{next: next})
		}
		t.begin()
		for t.players[t.winner].plays && yield(t.players[t.winner].entry) {
			t.step()
		}
	}
}

func (t *losers) begin() {
	for i := range t.players {
		t.players[i].step()
	}
	t.lost = make([]int, len(t.players))
	t.winner = t.play(1)
}

// play plays out what is below a node, and answers who won there.
func (t *losers) play(node int) int {
	if node >= len(t.players) {
		return node - len(t.players)
	}
	return t.meet(node, t.play(2*node), t.play(2*node+1))
}

// meet leaves the one of two players that lost at a node, and answers the other.
func (t *losers) meet(node int, a int, b int) int {
	if t.ahead(b, a) {
		a, b = b, a
	}
	t.lost[node] = b
	return a
}

// step takes the winner's next record, and plays again where that one plays.
func (t *losers) step() {
	t.players[t.winner].step()
	for node := (len(t.players) + t.winner) / 2; node > 0; node /= 2 {
		t.winner = t.meet(node, t.winner, t.lost[node])
	}
}

// ahead tells whether player i gives its record ahead of player j. One that has none left is behind all.
func (t *losers) ahead(i int, j int) bool {
	a, b := &t.players[i], &t.players[j]
	if !a.plays || !b.plays {
		return a.plays
	}
	way := compareKeys(a.place, b.place)
	return way < 0 || way == 0 && i < j
}
