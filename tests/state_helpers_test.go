package tests

import (
	"fmt"
	"math"
	"math/rand/v2"
	"slices"
	"testing"

	"loop.example/blockboxes/impl"
)

// isState reports whether a line is valid, as the document describes it.
func isState(l impl.Line) bool {
	n := len(l.Blocks)
	if n < 1 || n > 5 || len(l.Trains) > 5 {
		return false
	}
	for i, place := range l.Trains {
		if place < 0 || place > 2*n || i > 0 && l.Trains[i-1] < place {
			return false
		}
	}
	for k, b := range l.Blocks {
		many := len(trainsAt(l, 2*k+1))
		if !slices.Contains(possibleBlocks, b) || many > 1 || b.Inside != (many == 1) {
			return false
		}
	}
	return true
}

// trainsAt returns the indexes of all trains at a place.
func trainsAt(l impl.Line, place int) []int {
	var indexes []int
	for i, at := range l.Trains {
		if at == place {
			indexes = append(indexes, i)
		}
	}
	return indexes
}

func cloneState(l impl.Line) impl.Line {
	return impl.Line{Blocks: slices.Clone(l.Blocks), Trains: slices.Clone(l.Trains)}
}

func sameState(a impl.Line, b impl.Line) bool {
	return slices.Equal(a.Blocks, b.Blocks) && slices.Equal(a.Trains, b.Trains)
}

func isEmpty(l impl.Line) bool {
	return len(l.Blocks) == 0 && len(l.Trains) == 0
}

// moveOf does a move on a valid line as the document describes it.
func moveOf(l impl.Line, m impl.Move) (impl.Line, bool) {
	if m.Section < 0 || m.Section >= len(l.Blocks) || len(m.Letter) != 1 {
		return impl.Line{}, false
	}
	b, ok := eventOf(l.Blocks[m.Section], m.Letter[0])
	if !ok {
		return impl.Line{}, false
	}
	next := cloneState(l)
	next.Blocks[m.Section] = b
	if m.Letter == "e" || m.Letter == "l" {
		from := 2 * m.Section
		if m.Letter == "l" {
			from++
		}
		there := trainsAt(l, from)
		if len(there) == 0 {
			return impl.Line{}, false
		}
		next.Trains[there[0]] = from + 1
	}
	return next, true
}

// movesOf returns all moves that can be done, by sections and then by letters.
func movesOf(l impl.Line) []impl.Move {
	var moves []impl.Move
	for k := range l.Blocks {
		for _, letter := range letters {
			m := impl.Move{Section: k, Letter: letter}
			if _, ok := moveOf(l, m); ok {
				moves = append(moves, m)
			}
		}
	}
	return moves
}

func isDoneState(l impl.Line) bool {
	return !slices.ContainsFunc(l.Blocks, func(b impl.Block) bool { return b != normalBlock }) &&
		len(trainsAt(l, 2*len(l.Blocks))) == len(l.Trains)
}

// placesOf returns all lists of some places from 0 to top that do not rise.
func placesOf(trains int, top int) [][]int {
	if trains == 0 {
		return [][]int{{}}
	}
	var lists [][]int
	for first := range top + 1 {
		for _, rest := range placesOf(trains-1, first) {
			lists = append(lists, append([]int{first}, rest...))
		}
	}
	return lists
}

func blocksOf(n int) [][]impl.Block {
	lists := [][]impl.Block{{}}
	for range n {
		var longer [][]impl.Block
		for _, list := range lists {
			for _, b := range possibleBlocks {
				longer = append(longer, append(slices.Clone(list), b))
			}
		}
		lists = longer
	}
	return lists
}

// allStates returns all lines of n sections with some trains.
func allStates(n int, trains int) []impl.Line {
	var lines []impl.Line
	for _, blocks := range blocksOf(n) {
		for _, places := range placesOf(trains, 2*n) {
			l := cloneState(impl.Line{Blocks: blocks, Trains: places})
			if isState(l) {
				lines = append(lines, l)
			}
		}
	}
	return lines
}

// smallStates returns all lines of one or two sections, and those of three
// with at most two trains.
func smallStates() []impl.Line {
	var lines []impl.Line
	for trains := range 6 {
		lines = append(lines, allStates(1, trains)...)
		lines = append(lines, allStates(2, trains)...)
	}
	for trains := range 3 {
		lines = append(lines, allStates(3, trains)...)
	}
	return lines
}

// walkOf returns random moves that can be done one by one from a line on, and
// all lines on the way. Most of them bring the trains on.
func walkOf(random *rand.Rand, l impl.Line, many int) ([]impl.Move, []impl.Line) {
	moves, lines := []impl.Move{}, []impl.Line{l}
	for range many {
		can := movesOf(l)
		m := can[random.IntN(len(can))]
		if (m.Letter == "r" || m.Letter == "c") && random.IntN(3) > 0 {
			m = can[random.IntN(len(can))]
		}
		l, _ = moveOf(l, m)
		moves, lines = append(moves, m), append(lines, l)
	}
	return moves, lines
}

func startOf(n int, trains int) impl.Line {
	return impl.Line{Blocks: make([]impl.Block, n), Trains: make([]int, trains)}
}

func endOf(n int, trains int) impl.Line {
	return impl.Line{Blocks: make([]impl.Block, n), Trains: repeat(2*n, trains)}
}

// largeStates returns lines of three to five sections with all numbers of
// trains, on random walks from the start on.
func largeStates() []impl.Line {
	random := rand.New(rand.NewPCG(12, 4))
	var lines []impl.Line
	for n := 3; n <= 5; n++ {
		for trains := range 6 {
			lines = append(lines, endOf(n, trains))
			_, some := walkOf(random, startOf(n, trains), 40*n)
			lines = append(lines, some...)
		}
	}
	return lines
}

func someStates() []impl.Line {
	return append(smallStates(), largeStates()...)
}

// noStates returns lines that are invalid: with a number of sections or of
// trains just out of its range, a block that is not possible, places out of
// range or that rise, or trains and blocks that do not agree.
func noStates() []impl.Line {
	lines := []impl.Line{
		{},
		{Trains: []int{0}},
		startOf(0, 5),
		startOf(6, 0),
		startOf(6, 2),
		startOf(100000, 1),
		startOf(1, 6),
		startOf(5, 6),
		endOf(5, 6),
		startOf(2, 100000),
		{Blocks: make([]impl.Block, 3), Trains: []int{0, 2}},
		{Blocks: make([]impl.Block, 3), Trains: []int{4, 2, 6}},
		{Blocks: make([]impl.Block, 3), Trains: []int{6, 6, 4, 2, 4}},
		{Blocks: []impl.Block{insideBlock, insideBlock}, Trains: []int{1, 3}},
		{Blocks: []impl.Block{normalBlock, insideBlock}, Trains: []int{3, 3}},
		{Blocks: []impl.Block{normalBlock, insideBlock}, Trains: []int{1}},
		{Blocks: []impl.Block{insideBlock}, Trains: []int{1, 1, 1, 1, 1}},
		{Blocks: []impl.Block{insideBlock}, Trains: []int{2, 0}},
		{Blocks: []impl.Block{insideBlock}},
	}
	for n := 1; n <= 5; n++ {
		for k := range n {
			for _, b := range noBlocks() {
				for _, trains := range [][]int{{}, {0}, {2 * k}, {2*k + 1}, {2 * n, 0}} {
					l := impl.Line{Blocks: make([]impl.Block, n), Trains: trains}
					l.Blocks[k] = b
					lines = append(lines, l)
				}
			}
			for _, b := range possibleBlocks {
				for _, trains := range [][]int{{2*k + 1}, {2*k + 1, 2*k + 1}, {2 * n, 2*k + 1, 0}, {2*k + 2, 2 * k}} {
					l := impl.Line{Blocks: make([]impl.Block, n), Trains: trains}
					l.Blocks[k] = b
					lines = append(lines, l)
				}
			}
		}
		for _, place := range []int{-1, -2, 2*n + 1, 2*n + 2, 100, math.MinInt, math.MaxInt, 1 << 32, 256, -1 << 32} {
			lines = append(lines,
				impl.Line{Blocks: make([]impl.Block, n), Trains: []int{place}},
				impl.Line{Blocks: make([]impl.Block, n), Trains: []int{2 * n, place}},
				impl.Line{Blocks: make([]impl.Block, n), Trains: []int{place, 0}})
		}
	}
	return slices.DeleteFunc(lines, isState)
}

// wrongMoves are moves that no line of n sections has.
func wrongMoves(n int) []impl.Move {
	var moves []impl.Move
	for _, k := range []int{-1, -2, n, n + 1, 5, 6, 100, math.MinInt, math.MaxInt, 1 << 32, 256, -1 << 32} {
		if k >= 0 && k < n {
			continue
		}
		for _, letter := range letters {
			moves = append(moves, impl.Move{Section: k, Letter: letter})
		}
	}
	for k := range n {
		for _, letter := range noEvents() {
			moves = append(moves, impl.Move{Section: k, Letter: letter})
		}
	}
	return moves
}

// sectionLeft tries all events of one section, and returns the least number
// of them that let some trains enter and leave the block normal.
func sectionLeft(b impl.Block, trains int) int {
	type step struct {
		b      impl.Block
		trains int
	}
	layer, seen := []step{{b, trains}}, map[step]bool{}
	for moves := 0; ; moves++ {
		var next []step
		for _, s := range layer {
			if s.b == normalBlock && s.trains == 0 {
				return moves
			}
			for _, letter := range letters {
				behind, ok := eventOf(s.b, letter[0])
				to := step{behind, s.trains}
				if letter == "e" {
					to.trains--
				}
				if ok && to.trains >= 0 && !seen[to] {
					seen[to] = true
					next = append(next, to)
				}
			}
		}
		layer = next
	}
}

// leftOf sums up the events of the sections. TestPromise43 checks it against
// all moves of lines that are small enough.
func leftOf(l impl.Line) int {
	moves := 0
	for k, b := range l.Blocks {
		coming := 0
		for place := range 2*k + 1 {
			coming += len(trainsAt(l, place))
		}
		moves += sectionLeft(b, coming)
	}
	return moves
}

// finishOf does the first move behind which leftOf is less, again and again.
func finishOf(l impl.Line) []impl.Move {
	moves := []impl.Move{}
	for left := leftOf(l); left > 0; {
		for _, m := range movesOf(l) {
			next, _ := moveOf(l, m)
			if less := leftOf(next); less < left {
				moves, l, left = append(moves, m), next, less
				break
			}
		}
	}
	return moves
}

// fewestMoves returns the least number of moves from each line of n sections
// with some trains until it is done, by its text, going back from the end.
func fewestMoves(n int, trains int) map[string]int {
	ahead := map[string][]string{}
	for _, l := range allStates(n, trains) {
		for _, m := range movesOf(l) {
			next, _ := moveOf(l, m)
			ahead[fmt.Sprint(next)] = append(ahead[fmt.Sprint(next)], fmt.Sprint(l))
		}
	}
	end := fmt.Sprint(endOf(n, trains))
	fewest, queue := map[string]int{end: 0}, []string{end}
	for len(queue) > 0 {
		for _, l := range ahead[queue[0]] {
			if _, known := fewest[l]; !known {
				fewest[l] = fewest[queue[0]] + 1
				queue = append(queue, l)
			}
		}
		queue = queue[1:]
	}
	return fewest
}

// checkStateApart writes into a line, up to the capacity of its slices, and
// looks whether this changes its other slice or a given line.
func checkStateApart(t *testing.T, result impl.Line, given impl.Line) {
	t.Helper()
	want, before := cloneState(given), cloneState(result)
	blocks := result.Blocks[:cap(result.Blocks)]
	for i := range blocks {
		blocks[i] = impl.Block{Needle: -77}
	}
	trains := result.Trains[:cap(result.Trains)]
	for i := range trains {
		trains[i] = -77
	}
	if !sameState(given, want) {
		t.Fatalf("the result %v shares memory with the argument %v", before, want)
	}
	copy(result.Blocks, before.Blocks)
	copy(result.Trains, before.Trains)
}
