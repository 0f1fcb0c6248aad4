package tests

import (
	"math"
	"math/rand/v2"
	"slices"
	"testing"

	"loop.example/blockboxes/impl"
)

func TestPromise37(t *testing.T) {
	for _, l := range someStates() {
		if !impl.LineValid(l) {
			t.Fatalf("%v is not valid", l)
		}
		n := len(l.Blocks)
		together := 0
		for k := range n {
			there := trainsAt(l, 2*k+1)
			i, ok := impl.LineIn(l, k)
			if ok != (len(there) == 1) || ok != l.Blocks[k].Inside || ok && i != there[0] || !ok && i != 0 {
				t.Fatalf("LineIn(%v, %d) = %d, %v", l, k, i, ok)
			}
			together += len(there)
		}
		for box := range n + 1 {
			together += impl.LineWaits(l, box)
		}
		if together != len(l.Trains) {
			t.Fatalf("there are %d trains on %v", together, l)
		}
	}
}

func TestLineValidLimits(t *testing.T) {
	valid := []impl.Line{startOf(1, 0), startOf(5, 0), startOf(1, 5), startOf(5, 5), endOf(1, 5), endOf(5, 5),
		{Blocks: []impl.Block{insideBlock, leftBlock, offeredBlock, clearBlock, insideBlock}, Trains: []int{10, 9, 4, 4, 1}},
		{Blocks: []impl.Block{insideBlock}, Trains: []int{2, 2, 1, 0, 0}},
	}
	for _, l := range valid {
		if !impl.LineValid(l) {
			t.Errorf("%v is not valid", l)
		}
	}
	for _, l := range noStates() {
		if impl.LineValid(l) {
			t.Errorf("%v is valid", l)
		}
	}
}

func TestLineValidAll(t *testing.T) {
	lists := [][]int{{}}
	for start := 0; len(lists[start]) < 4; start++ {
		for place := -1; place <= 5; place++ {
			lists = append(lists, append(slices.Clone(lists[start]), place))
		}
	}
	for _, trains := range lists {
		for _, b := range allBlocks() {
			l := impl.Line{Blocks: []impl.Block{b}, Trains: trains}
			if impl.LineValid(l) != isState(l) {
				t.Fatalf("LineValid(%v) = %v", l, !isState(l))
			}
		}
		for _, blocks := range blocksOf(2) {
			l := impl.Line{Blocks: blocks, Trains: trains}
			if impl.LineValid(l) != isState(l) {
				t.Fatalf("LineValid(%v) = %v", l, !isState(l))
			}
		}
	}
}

func TestPromise38(t *testing.T) {
	for n := 1; n <= 5; n++ {
		for trains := range 6 {
			l, ok := impl.LineNew(n, trains)
			if !ok || !sameState(l, startOf(n, trains)) || !impl.LineValid(l) {
				t.Fatalf("LineNew(%d, %d) = %v, %v", n, trains, l, ok)
			}
			if impl.LineWaits(l, 0) != trains || impl.LineLeft(l) != 5*n*trains || impl.LineDone(l) != (trains == 0) {
				t.Errorf("of LineNew(%d, %d), %d trains wait, %d moves are left, and it is done: %v", n, trains, impl.LineWaits(l, 0), impl.LineLeft(l), impl.LineDone(l))
			}
			again, _ := impl.LineNew(n, trains)
			checkStateApart(t, l, again)
		}
	}
}

func TestLineNewInvalid(t *testing.T) {
	check := func(n int, trains int) {
		if l, ok := impl.LineNew(n, trains); ok || !isEmpty(l) {
			t.Errorf("LineNew(%d, %d) = %v, %v", n, trains, l, ok)
		}
	}
	wrongTrains := []int{-1, -2, 6, 7, 1000, math.MinInt, math.MaxInt, 1<<32 + 2, 256, -1 << 32}
	for _, n := range append(noSections, 256+1, -1<<32) {
		for trains := range 6 {
			check(n, trains)
		}
		for _, trains := range wrongTrains {
			check(n, trains)
		}
	}
	for n := 1; n <= 5; n++ {
		for _, trains := range wrongTrains {
			check(n, trains)
		}
	}
}

// checkStep checks a move that can be done on a line against the promise.
func checkStep(t *testing.T, l impl.Line, m impl.Move, next impl.Line) {
	t.Helper()
	b, ok := impl.BlockStep(l.Blocks[m.Section], m.Letter)
	if !ok || next.Blocks[m.Section] != b || !impl.LineValid(next) {
		t.Fatalf("LineStep(%v, %v) = %v", l, m, next)
	}
	gone := 0
	for i, place := range next.Trains {
		if place != l.Trains[i] && place != l.Trains[i]+1 {
			t.Fatalf("a train of LineStep(%v, %v) = %v goes on by more than one place", l, m, next)
		}
		gone += place - l.Trains[i]
	}
	if passes := m.Letter == "e" || m.Letter == "l"; gone != 1 && passes || gone != 0 && !passes {
		t.Fatalf("%d trains of LineStep(%v, %v) = %v go on", gone, l, m, next)
	}
	if impl.LineLeft(next) < impl.LineLeft(l)-1 {
		t.Fatalf("LineLeft of LineStep(%v, %v) = %d, but it was %d", l, m, impl.LineLeft(next), impl.LineLeft(l))
	}
}

func TestPromise39(t *testing.T) {
	for _, l := range someStates() {
		for k := range l.Blocks {
			for _, letter := range append([]string{"", "x", "oa", "le", "O", "\x00"}, letters...) {
				m := impl.Move{Section: k, Letter: letter}
				given := cloneState(l)
				next, ok := impl.LineStep(given, m)
				want, can := moveOf(l, m)
				if ok != can || !sameState(next, want) || !sameState(given, l) {
					t.Fatalf("LineStep(%v, %v) = %v, %v", l, m, next, ok)
				}
				if ok {
					checkStep(t, l, m, next)
					checkStateApart(t, next, given)
				}
			}
		}
	}
}

func TestLineStepKnown(t *testing.T) {
	all := []impl.Block{clearBlock, insideBlock, leftBlock}
	l := impl.Line{Blocks: all, Trains: []int{6, 4, 3, 0, 0}}
	known := []struct {
		m      impl.Move
		blocks []impl.Block
		trains []int
	}{
		{impl.Move{Section: 0, Letter: "e"}, []impl.Block{insideBlock, insideBlock, leftBlock}, []int{6, 4, 3, 1, 0}},
		{impl.Move{Section: 0, Letter: "c"}, []impl.Block{normalBlock, insideBlock, leftBlock}, []int{6, 4, 3, 0, 0}},
		{impl.Move{Section: 1, Letter: "l"}, []impl.Block{clearBlock, leftBlock, leftBlock}, []int{6, 4, 4, 0, 0}},
		{impl.Move{Section: 2, Letter: "f"}, []impl.Block{clearBlock, insideBlock, normalBlock}, []int{6, 4, 3, 0, 0}},
	}
	for _, step := range known {
		next, ok := impl.LineStep(l, step.m)
		if !ok || !sameState(next, impl.Line{Blocks: step.blocks, Trains: step.trains}) {
			t.Errorf("LineStep(%v, %v) = %v, %v", l, step.m, next, ok)
		}
	}
	noTrains := []impl.Line{
		{Blocks: []impl.Block{clearBlock}},
		{Blocks: []impl.Block{clearBlock}, Trains: []int{2, 2}},
		{Blocks: []impl.Block{clearBlock, clearBlock}, Trains: []int{4, 2}},
	}
	for _, l := range noTrains {
		if next, ok := impl.LineStep(l, impl.Move{Section: 0, Letter: "e"}); ok || !isEmpty(next) {
			t.Errorf("LineStep lets no train enter: %v", next)
		}
	}
}

func TestLineStepInvalid(t *testing.T) {
	lines := []impl.Line{
		{Blocks: []impl.Block{offeredBlock, clearBlock}, Trains: []int{2, 0}},
		{Blocks: []impl.Block{insideBlock, leftBlock, normalBlock, clearBlock, offeredBlock}, Trains: []int{8, 6, 1, 0, 0}},
		{Blocks: []impl.Block{clearBlock}, Trains: []int{0, 0, 0}},
		{Blocks: []impl.Block{insideBlock}, Trains: []int{1}},
	}
	for _, l := range lines {
		for _, m := range wrongMoves(len(l.Blocks)) {
			if next, ok := impl.LineStep(l, m); ok || !isEmpty(next) {
				t.Fatalf("LineStep(%v, %.40v) = %v, %v", l, m, next, ok)
			}
			good := movesOf(l)[0]
			if next, ok := impl.LineRun(l, []impl.Move{good, m}); ok || !isEmpty(next) {
				t.Fatalf("LineRun(%v) of %v and %.40v = %v, %v", l, good, m, next, ok)
			}
		}
	}
	for _, l := range noStates() {
		given := cloneState(l)
		for k := -1; k <= len(l.Blocks) && k <= 6; k++ {
			for _, letter := range letters {
				m := impl.Move{Section: k, Letter: letter}
				if next, ok := impl.LineStep(given, m); ok || !isEmpty(next) {
					t.Fatalf("LineStep(%v, %v) = %v, %v", l, m, next, ok)
				}
			}
		}
		for _, moves := range [][]impl.Move{nil, {}, {{Section: 0, Letter: "o"}}} {
			if next, ok := impl.LineRun(given, moves); ok || !isEmpty(next) {
				t.Fatalf("LineRun(%v, %v) = %v, %v", l, moves, next, ok)
			}
		}
		if !sameState(given, l) {
			t.Fatalf("%v is changed to %v", l, given)
		}
	}
}

// someWalks returns moves that can be done from lines of all sizes on, with
// the lines on the way.
func someWalks() ([][]impl.Move, [][]impl.Line) {
	random := rand.New(rand.NewPCG(40, 4))
	var walks [][]impl.Move
	var ways [][]impl.Line
	for n := 1; n <= 5; n++ {
		for trains := range 6 {
			for _, many := range []int{0, 1, 7, 30, 31, 150} {
				start := startOf(n, trains)
				_, ahead := walkOf(random, start, random.IntN(20*n))
				for _, from := range []impl.Line{start, ahead[len(ahead)-1]} {
					moves, way := walkOf(random, from, many)
					walks, ways = append(walks, moves), append(ways, way)
				}
			}
		}
	}
	return walks, ways
}

func TestPromise40(t *testing.T) {
	walks, ways := someWalks()
	for i, moves := range walks {
		start, end := ways[i][0], ways[i][len(moves)]
		given, givenMoves := cloneState(start), slices.Clone(moves)
		got, ok := impl.LineRun(given, givenMoves)
		if !ok || !sameState(got, end) || !sameState(given, start) || !slices.Equal(givenMoves, moves) {
			t.Fatalf("LineRun(%v, %v) = %v, %v", start, moves, got, ok)
		}
		checkStateApart(t, got, given)
		for k, b := range start.Blocks {
			text := impl.LineText(moves, k)
			if len(text) > 30 {
				continue
			}
			if behind, ok := impl.BlockRun(b, text); !ok || behind != end.Blocks[k] {
				t.Fatalf("%q leads from %v to %v, but the moves to %v", text, b, behind, end.Blocks[k])
			}
		}
		for half := range len(moves) + 1 {
			middle, first := impl.LineRun(start, moves[:half])
			last, second := impl.LineRun(middle, moves[half:])
			if !first || !second || !sameState(middle, ways[i][half]) || !sameState(last, end) {
				t.Fatalf("LineRun of %v and %v from %v on ends with %v", moves[:half], moves[half:], start, last)
			}
		}
	}
}

func TestLineRunFails(t *testing.T) {
	walks, ways := someWalks()
	for i, moves := range walks {
		for place := range len(moves) + 1 {
			// The same event can't be done twice in a row.
			twice := slices.Clone(moves)
			if place > 0 {
				twice = slices.Insert(twice, place, moves[place-1])
			} else {
				twice = slices.Insert(twice, 0, impl.Move{Section: len(ways[i][0].Blocks), Letter: "o"})
			}
			if got, ok := impl.LineRun(ways[i][0], twice); ok || !isEmpty(got) {
				t.Fatalf("LineRun(%v, %v) = %v, %v", ways[i][0], twice, got, ok)
			}
		}
	}
	rest := slices.Repeat([]impl.Move{{Section: 0, Letter: "o"}, {Section: 0, Letter: "r"}}, 100000)
	if got, ok := impl.LineRun(startOf(2, 1), rest); !ok || !sameState(got, startOf(2, 1)) {
		t.Errorf("LineRun of %d moves = %v, %v", len(rest), got, ok)
	}
}

func TestPromise41(t *testing.T) {
	for _, l := range someStates() {
		given := cloneState(l)
		moves := impl.LineMoves(given)
		if !slices.Equal(moves, movesOf(l)) || !sameState(given, l) {
			t.Fatalf("LineMoves(%v) = %v", l, moves)
		}
		for _, a := range moves {
			one, ok := impl.LineStep(l, a)
			if !ok {
				t.Fatalf("LineMoves(%v) = %v, but %v can't be done", l, moves, a)
			}
			for _, b := range moves {
				other, _ := impl.LineStep(l, b)
				if a.Section == b.Section {
					continue
				}
				first, can := impl.LineStep(one, b)
				second, could := impl.LineStep(other, a)
				if !can || !could || !sameState(first, second) {
					t.Fatalf("%v and %v lead from %v to %v and %v", a, b, l, first, second)
				}
			}
		}
	}
	for _, l := range noStates() {
		if moves := impl.LineMoves(l); len(moves) != 0 {
			t.Errorf("LineMoves(%v) = %v", l, moves)
		}
	}
}

func TestLineMovesKnown(t *testing.T) {
	l := impl.Line{Blocks: []impl.Block{offeredBlock, clearBlock, clearBlock, insideBlock, leftBlock}, Trains: []int{8, 7, 4}}
	want := []impl.Move{{Section: 0, Letter: "a"}, {Section: 0, Letter: "r"}, {Section: 1, Letter: "c"},
		{Section: 2, Letter: "c"}, {Section: 2, Letter: "e"}, {Section: 3, Letter: "l"}, {Section: 4, Letter: "f"}}
	if moves := impl.LineMoves(l); !slices.Equal(moves, want) {
		t.Errorf("LineMoves(%v) = %v", l, moves)
	}
}
