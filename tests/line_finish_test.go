package tests

import (
	"fmt"
	"math"
	"math/rand/v2"
	"slices"
	"strings"
	"testing"

	"loop.example/blockboxes/impl"
)

func TestPromise42(t *testing.T) {
	done := 0
	for _, l := range someStates() {
		if impl.LineDone(l) != isDoneState(l) {
			t.Fatalf("LineDone(%v) = %v", l, impl.LineDone(l))
		}
		if !impl.LineDone(l) {
			continue
		}
		done++
		moves, ok := impl.LineFinish(l)
		if impl.LineLeft(l) != 0 || !ok || len(moves) != 0 || impl.LineWaits(l, len(l.Blocks)) != len(l.Trains) {
			t.Fatalf("LineLeft(%v) = %d, and LineFinish returned %v, %v", l, impl.LineLeft(l), moves, ok)
		}
		for _, m := range impl.LineMoves(l) {
			next, _ := impl.LineStep(l, m)
			if impl.LineDone(next) {
				t.Errorf("%v is done, and is so behind %v", l, m)
			}
		}
	}
	if done < 30 {
		t.Errorf("only %d lines are done", done)
	}
}

func TestLineDoneKnown(t *testing.T) {
	for n := 1; n <= 5; n++ {
		for trains := range 6 {
			l := endOf(n, trains)
			if !impl.LineDone(l) {
				t.Errorf("%v is not done", l)
			}
			for k := range n {
				for _, b := range []impl.Block{offeredBlock, clearBlock, leftBlock} {
					other := cloneState(l)
					other.Blocks[k] = b
					if impl.LineDone(other) {
						t.Errorf("%v is done", other)
					}
				}
			}
			if trains == 0 {
				continue
			}
			for box := range n {
				other := cloneState(l)
				other.Trains[trains-1] = 2 * box
				if impl.LineDone(other) {
					t.Errorf("%v is done", other)
				}
			}
		}
	}
}

// checkLeft checks a valid line of which the least number of moves is known.
func checkLeft(t *testing.T, l impl.Line, want int) {
	t.Helper()
	given := cloneState(l)
	left := impl.LineLeft(given)
	moves, ok := impl.LineFinish(given)
	if left != want || !ok || len(moves) != want || (left == 0) != impl.LineDone(given) || !sameState(given, l) {
		t.Fatalf("LineLeft(%v) = %d, not %d, and LineFinish returned %v, %v", l, left, want, moves, ok)
	}
	if left == 0 {
		return
	}
	for _, m := range impl.LineMoves(l) {
		next, _ := impl.LineStep(l, m)
		if impl.LineLeft(next) == left-1 {
			return
		}
	}
	t.Fatalf("no move from %v on makes LineLeft less than %d", l, left)
}

func TestPromise43(t *testing.T) {
	sizes := [][2]int{{1, 0}, {1, 1}, {1, 2}, {1, 3}, {1, 4}, {1, 5}, {2, 0}, {2, 1}, {2, 2}, {2, 3}, {2, 4}, {2, 5}, {3, 0}, {3, 1}, {3, 2}, {3, 3}, {4, 1}}
	for _, size := range sizes {
		fewest := fewestMoves(size[0], size[1])
		for _, l := range allStates(size[0], size[1]) {
			want, known := fewest[fmt.Sprint(l)]
			if !known || want != leftOf(l) {
				t.Fatalf("%v needs %d moves, but leftOf tells %d", l, want, leftOf(l))
			}
			checkLeft(t, l, want)
		}
	}
	for _, l := range largeStates() {
		checkLeft(t, l, leftOf(l))
	}
}

func TestLineLeftKnown(t *testing.T) {
	known := []struct {
		l    impl.Line
		want int
	}{
		{startOf(5, 5), 125},
		{startOf(1, 1), 5},
		{impl.Line{Blocks: []impl.Block{offeredBlock}}, 1},
		{impl.Line{Blocks: []impl.Block{clearBlock}}, 1},
		{impl.Line{Blocks: []impl.Block{leftBlock}}, 1},
		{impl.Line{Blocks: []impl.Block{offeredBlock}, Trains: []int{2}}, 1},
		{impl.Line{Blocks: []impl.Block{clearBlock}, Trains: []int{2, 2}}, 1},
		{impl.Line{Blocks: []impl.Block{offeredBlock}, Trains: []int{0}}, 4},
		{impl.Line{Blocks: []impl.Block{clearBlock}, Trains: []int{0, 0}}, 8},
		{impl.Line{Blocks: []impl.Block{insideBlock}, Trains: []int{1}}, 2},
		{impl.Line{Blocks: []impl.Block{insideBlock}, Trains: []int{2, 1, 0}}, 7},
		{impl.Line{Blocks: []impl.Block{leftBlock}, Trains: []int{2, 0}}, 6},
		{impl.Line{Blocks: []impl.Block{insideBlock, clearBlock}, Trains: []int{1}}, 5},
		{impl.Line{Blocks: []impl.Block{normalBlock, clearBlock}, Trains: []int{4}}, 1},
	}
	for _, k := range known {
		if left := impl.LineLeft(k.l); left != k.want {
			t.Errorf("LineLeft(%v) = %d", k.l, left)
		}
	}
}

func TestPromise44(t *testing.T) {
	for i, l := range someStates() {
		moves, _ := impl.LineFinish(l)
		if !slices.Equal(moves, finishOf(l)) {
			t.Fatalf("LineFinish(%v) = %v", l, moves)
		}
		end, ok := impl.LineRun(l, moves)
		if !ok || !impl.LineDone(end) || !sameState(end, endOf(len(l.Blocks), len(l.Trains))) {
			t.Fatalf("LineFinish(%v) = %v leads to %v", l, moves, end)
		}
		if i%5 != 0 {
			continue
		}
		for j, m := range moves {
			l, _ = impl.LineStep(l, m)
			rest, ok := impl.LineFinish(l)
			if !ok || !slices.Equal(rest, moves[j+1:]) {
				t.Fatalf("LineFinish(%v) = %v, not %v", l, rest, moves[j+1:])
			}
		}
	}
}

func TestLineFinishKnown(t *testing.T) {
	l := impl.Line{Blocks: []impl.Block{clearBlock, offeredBlock, insideBlock}, Trains: []int{6, 5, 2}}
	want := []impl.Move{{Section: 0, Letter: "c"}, {Section: 1, Letter: "a"}, {Section: 1, Letter: "e"}, {Section: 1, Letter: "l"}, {Section: 1, Letter: "f"},
		{Section: 2, Letter: "l"}, {Section: 2, Letter: "f"}, {Section: 2, Letter: "o"}, {Section: 2, Letter: "a"}, {Section: 2, Letter: "e"}, {Section: 2, Letter: "l"}, {Section: 2, Letter: "f"}}
	if moves, ok := impl.LineFinish(l); !ok || !slices.Equal(moves, want) {
		t.Errorf("LineFinish(%v) = %v, %v", l, moves, ok)
	}
	without := impl.Line{Blocks: []impl.Block{offeredBlock, clearBlock, leftBlock}}
	want = []impl.Move{{Section: 0, Letter: "r"}, {Section: 1, Letter: "c"}, {Section: 2, Letter: "f"}}
	if moves, ok := impl.LineFinish(without); !ok || !slices.Equal(moves, want) {
		t.Errorf("LineFinish(%v) = %v, %v", without, moves, ok)
	}
}

func TestPromise45(t *testing.T) {
	for n := 1; n <= 5; n++ {
		for trains := range 6 {
			l, _ := impl.LineNew(n, trains)
			moves, ok := impl.LineFinish(l)
			if !ok || len(moves) != 5*n*trains {
				t.Fatalf("LineFinish(%v) = %v, %v", l, moves, ok)
			}
			cycle, _ := impl.BlockCycle(trains)
			for k := range n {
				if text := impl.LineText(moves, k); text != cycle || text != strings.Repeat("oaelf", trains) {
					t.Errorf("LineFinish(%v) has %q in the section %d", l, text, k)
				}
			}
		}
	}
}

func TestLineFinishInvalid(t *testing.T) {
	for _, l := range noStates() {
		given := cloneState(l)
		if moves, ok := impl.LineFinish(given); ok || len(moves) != 0 {
			t.Errorf("LineFinish(%v) = %v, %v", l, moves, ok)
		}
		if impl.LineDone(given) || impl.LineLeft(given) != -1 {
			t.Errorf("%v is done: %v, with %d moves left", l, impl.LineDone(given), impl.LineLeft(given))
		}
		for k := -1; k <= 6; k++ {
			if i, ok := impl.LineIn(given, k); ok || i != 0 || impl.LineWaits(given, k) != -1 {
				t.Errorf("LineIn(%v, %d) = %d, %v, and LineWaits = %d", l, k, i, ok, impl.LineWaits(given, k))
			}
		}
		if !sameState(given, l) {
			t.Errorf("%v is changed to %v", l, given)
		}
	}
}

// plainLists returns random lists of moves with one letter each and a section
// from 0 to 5, and some with a few moves alone.
func plainLists() [][]impl.Move {
	random := rand.New(rand.NewPCG(46, 4))
	lists := [][]impl.Move{nil, {{Section: 5, Letter: "o"}}, {{Section: 1, Letter: "x"}, {Section: 0, Letter: "\xff"}}}
	for many := range 60 {
		var moves []impl.Move
		for range many {
			letter := letters[random.IntN(len(letters))]
			if random.IntN(10) == 0 {
				letter = string([]byte{byte(random.IntN(256))})
			}
			moves = append(moves, impl.Move{Section: random.IntN(6), Letter: letter})
		}
		lists = append(lists, moves)
	}
	return lists
}

// oddLists returns lists of moves with letters and sections that there are not.
func oddLists() [][]impl.Move {
	random := rand.New(rand.NewPCG(47, 4))
	sections := []int{-1, 0, 1, 5, 6, 7, 100, math.MinInt, math.MinInt + 1, math.MaxInt, math.MaxInt - 1, 1 << 32, -1 << 32, 256}
	texts := append([]string{"", "oaelf", "née", strings.Repeat("or", 50)}, letters...)
	var lists [][]impl.Move
	for many := range 60 {
		var moves []impl.Move
		for range many {
			moves = append(moves, impl.Move{Section: sections[random.IntN(len(sections))], Letter: texts[random.IntN(len(texts))]})
		}
		lists = append(lists, moves)
	}
	return lists
}

// textIn adds the letters of the moves of a section from the last one on.
func textIn(moves []impl.Move, k int) string {
	text := ""
	for i := len(moves) - 1; i >= 0; i-- {
		if moves[i].Section == k {
			text = moves[i].Letter + text
		}
	}
	return text
}

func sectionsIn(moves []impl.Move) []int {
	var sections []int
	for _, m := range moves {
		sections = append(sections, m.Section)
	}
	return sections
}

func TestPromise46(t *testing.T) {
	for _, moves := range plainLists() {
		given := slices.Clone(moves)
		order := impl.LineOrder(given)
		together := 0
		for k := range 6 {
			text := impl.LineText(given, k)
			if text != textIn(moves, k) || impl.LineText(order, k) != text {
				t.Fatalf("LineText(%v, %d) = %q, and behind LineOrder %q", moves, k, text, impl.LineText(order, k))
			}
			together += len(text)
		}
		if together != len(moves) || !slices.Equal(given, moves) {
			t.Fatalf("%d moves of %v have %d letters", len(moves), moves, together)
		}
	}
}

func TestLineTextKnown(t *testing.T) {
	moves := []impl.Move{{Section: 1, Letter: "o"}, {Section: -3, Letter: "né"}, {Section: 0, Letter: "x"}, {Section: 1, Letter: "oaelf"}, {Section: -3, Letter: ""}, {Section: math.MaxInt, Letter: "\xff\x00"}, {Section: -3, Letter: " "}}
	known := map[int]string{1: "ooaelf", -3: "né ", 0: "x", math.MaxInt: "\xff\x00", 2: "", -1: "", math.MinInt: "", 1<<32 + 1: "", 256: ""}
	for k, want := range known {
		if text := impl.LineText(moves, k); text != want {
			t.Errorf("LineText(%v, %d) = %q", moves, k, text)
		}
		if impl.LineText(nil, k) != "" || impl.LineText([]impl.Move{}, k) != "" {
			t.Errorf("LineText of no moves is not empty for %d", k)
		}
	}
	for _, moves := range oddLists() {
		for _, k := range append(sectionsIn(moves), 2, 3, -2) {
			if text := impl.LineText(moves, k); text != textIn(moves, k) {
				t.Errorf("LineText(%v, %d) = %q", moves, k, text)
			}
		}
	}
	long := slices.Repeat([]impl.Move{{Section: 4, Letter: "oaelf"}, {Section: 3, Letter: "o"}}, 100000)
	if text := impl.LineText(long, 4); text != strings.Repeat("oaelf", 100000) {
		t.Errorf("LineText of a long list has %d letters", len(text))
	}
}

func TestPromise47(t *testing.T) {
	for _, moves := range append(plainLists(), oddLists()...) {
		given := slices.Clone(moves)
		order := impl.LineOrder(given)
		if !slices.IsSorted(sectionsIn(order)) || len(order) != len(moves) || !slices.Equal(given, moves) {
			t.Fatalf("LineOrder(%v) = %v", moves, order)
		}
		if again := impl.LineOrder(order); !slices.Equal(again, order) {
			t.Fatalf("LineOrder(%v) = %v", order, again)
		}
		var want []impl.Move
		for _, k := range slices.Compact(sectionsIn(order)) {
			if impl.LineText(order, k) != textIn(moves, k) {
				t.Fatalf("LineOrder(%v) = %v", moves, order)
			}
			for _, m := range moves {
				if m.Section == k {
					want = append(want, m)
				}
			}
		}
		if !slices.Equal(order, want) {
			t.Fatalf("LineOrder(%v) = %v", moves, order)
		}
		clear(order[:cap(order)])
		if !slices.Equal(given, moves) {
			t.Fatalf("LineOrder(%v) shares memory with its argument", moves)
		}
	}
}

func TestLineOrderKnown(t *testing.T) {
	moves := []impl.Move{{Section: 2, Letter: "o"}, {Section: -1, Letter: "é"}, {Section: 0, Letter: "b"}, {Section: 2, Letter: "a"}, {Section: 0, Letter: "a"}, {Section: 2, Letter: "b"}, {Section: -1, Letter: ""}}
	want := []impl.Move{{Section: -1, Letter: "é"}, {Section: -1, Letter: ""}, {Section: 0, Letter: "b"}, {Section: 0, Letter: "a"}, {Section: 2, Letter: "o"}, {Section: 2, Letter: "a"}, {Section: 2, Letter: "b"}}
	if order := impl.LineOrder(moves); !slices.Equal(order, want) {
		t.Errorf("LineOrder(%v) = %v", moves, order)
	}
	for _, none := range [][]impl.Move{nil, {}} {
		if order := impl.LineOrder(none); len(order) != 0 {
			t.Errorf("LineOrder of no moves = %v", order)
		}
	}
	roomy := append(make([]impl.Move, 0, 10), moves...)
	order := impl.LineOrder(roomy)
	if _ = append(order, impl.Move{Letter: "z"}); roomy[:8][7] != (impl.Move{}) {
		t.Errorf("LineOrder shares the room behind its argument")
	}
}

func TestPromise48(t *testing.T) {
	entries := 0
	for _, l := range someStates() {
		for box := range len(l.Blocks) + 1 {
			there := trainsAt(l, 2*box)
			if waits := impl.LineWaits(l, box); waits != len(there) {
				t.Fatalf("LineWaits(%v, %d) = %d", l, box, waits)
			}
			next, ok := impl.LineStep(l, impl.Move{Section: box, Letter: "e"})
			if !ok {
				continue
			}
			entries++
			i, inside := impl.LineIn(next, box)
			if impl.LineWaits(next, box) != len(there)-1 || !inside || i != there[0] {
				t.Fatalf("from %v on, the train %d enters the section %d", l, i, box)
			}
		}
	}
	if entries < 100 {
		t.Errorf("only %d entries can be done", entries)
	}
}

// TestTrainsAtBox lets up to five trains gather at each box of each line, and
// then enter one by one.
func TestTrainsAtBox(t *testing.T) {
	for n := 1; n <= 5; n++ {
		for box := range n {
			for trains := 2; trains <= 5; trains++ {
				l := impl.Line{Blocks: make([]impl.Block, n), Trains: repeat(2*box, trains)}
				for i := range trains {
					if waits := impl.LineWaits(l, box); waits != trains-i {
						t.Fatalf("LineWaits(%v, %d) = %d", l, box, waits)
					}
					run, ok := impl.LineRun(l, []impl.Move{{Section: box, Letter: "o"}, {Section: box, Letter: "a"}, {Section: box, Letter: "e"}})
					if in, inside := impl.LineIn(run, box); !ok || !inside || in != i || impl.LineWaits(run, box) != trains-i-1 {
						t.Fatalf("the train %d enters the section %d of %v", in, box, l)
					}
					l, ok = impl.LineRun(run, []impl.Move{{Section: box, Letter: "l"}, {Section: box, Letter: "f"}})
					if !ok || impl.LineWaits(l, box+1) != i+1 {
						t.Fatalf("%v: %d trains wait at the box %d", l, impl.LineWaits(l, box+1), box+1)
					}
				}
			}
		}
	}
}

func TestLineWaitsInvalid(t *testing.T) {
	for n := 1; n <= 5; n++ {
		lines := []impl.Line{startOf(n, 3), endOf(n, 3), startOf(n, 0)}
		inside := impl.Line{Blocks: make([]impl.Block, n), Trains: []int{2*n - 1}}
		inside.Blocks[n-1] = insideBlock
		for _, l := range append(lines, inside) {
			for _, k := range []int{-1, -2, n + 1, n + 2, 100, math.MinInt, math.MaxInt, math.MinInt / 2, math.MaxInt / 2, 1 << 62, -1 << 62, 1<<62 + 1, 1 << 32, 256} {
				if waits := impl.LineWaits(l, k); waits != -1 {
					t.Errorf("LineWaits(%v, %d) = %d", l, k, waits)
				}
				if i, ok := impl.LineIn(l, k); ok || i != 0 {
					t.Errorf("LineIn(%v, %d) = %d, %v", l, k, i, ok)
				}
			}
			if i, ok := impl.LineIn(l, n); ok || i != 0 {
				t.Errorf("LineIn(%v, %d) = %d, %v", l, n, i, ok)
			}
		}
		if i, ok := impl.LineIn(inside, n-1); !ok || i != 0 {
			t.Errorf("LineIn(%v, %d) = %d, %v", inside, n-1, i, ok)
		}
	}
}
