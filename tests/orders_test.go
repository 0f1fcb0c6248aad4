package tests

import (
	"math"
	"slices"
	"strings"
	"testing"

	"loop.example/blockboxes/impl"
)

func TestConstantsOfOrders(t *testing.T) {
	if impl.QueueMax != 6 {
		t.Errorf("QueueMax is %d", impl.QueueMax)
	}
}

func TestSingleValid(t *testing.T) {
	for _, s := range someSingles() {
		given := cloneSingle(s)
		if !impl.SingleValid(given) || !sameSingle(given, s) {
			t.Errorf("%v is invalid", s)
		}
	}
	for _, s := range noSingles() {
		if impl.SingleValid(s) {
			t.Errorf("%v, %v, %d, %d is valid", shortList(s.A), shortList(s.B), s.Run, s.Head)
		}
	}
	known := []struct {
		s  impl.Single
		ok bool
	}{
		{impl.Single{}, false},
		{impl.Single{Run: 1, Head: 1}, true},
		{impl.Single{Run: 1}, false},
		{impl.Single{Run: 1, Head: 2}, false},
		{impl.Single{Run: 0, Head: 1}, false},
		{impl.Single{Run: 100, Head: 100}, true},
		{impl.Single{Run: 101, Head: 100}, false},
		{impl.Single{Run: 100, Head: 101}, false},
		{impl.Single{Run: 10, Head: -1}, false},
		{impl.Single{A: []int{0}, B: []int{2000}, Run: 10, Head: 3}, true},
		{impl.Single{A: []int{-1}, Run: 10, Head: 3}, false},
		{impl.Single{B: []int{-1}, Run: 10, Head: 3}, false},
		{impl.Single{A: []int{2001}, Run: 10, Head: 3}, false},
		{impl.Single{B: []int{2001}, Run: 10, Head: 3}, false},
		{impl.Single{A: []int{5, 5, 5, 5, 5, 5}, B: []int{5, 5, 5, 5, 5, 5}, Run: 10, Head: 3}, true},
		{impl.Single{A: repeat(5, 7), Run: 10, Head: 3}, false},
		{impl.Single{B: repeat(5, 7), Run: 10, Head: 3}, false},
		{impl.Single{A: []int{5, 4}, Run: 10, Head: 3}, false},
		{impl.Single{B: []int{5, 5, 4}, Run: 10, Head: 3}, false},
	}
	for _, k := range known {
		if impl.SingleValid(k.s) != k.ok {
			t.Errorf("SingleValid(%v) = %v", k.s, !k.ok)
		}
	}
}

func TestPromise86(t *testing.T) {
	waits := 0
	for _, s := range someSingles() {
		for i, order := range ordersOf(s) {
			given := cloneSingle(s)
			starts, ok := impl.SingleStarts(given, order)
			if !ok || !slices.Equal(starts, startsOf(s, order)) || !sameSingle(given, s) {
				t.Fatalf("SingleStarts(%v, %q) = %v, %v", s, order, starts, ok)
			}
			if i == 0 {
				checkListsApart(t, starts, given.A, given.B)
			}
			waits += checkStarts(t, s, order, starts)
		}
	}
	if waits == 0 {
		t.Error("no train waits")
	}
}

// checkStarts returns how many trains start later than they are ready.
func checkStarts(t *testing.T, s impl.Single, order string, starts []int) int {
	t.Helper()
	waits := 0
	for i, ready := range readyOf(s, order) {
		earliest := ready
		if i > 0 {
			apart := s.Head
			if order[i-1:i+1] == "UD" || order[i-1:i+1] == "DU" {
				apart = s.Run
			}
			if starts[i]-starts[i-1] < s.Head || starts[i]-starts[i-1] < apart {
				t.Fatalf("SingleStarts(%v, %q) = %v, too near to the train ahead of %d", s, order, starts, i)
			}
			earliest = starts[i-1] + apart
		}
		if starts[i] < ready || starts[i] != ready && starts[i] != earliest {
			t.Fatalf("SingleStarts(%v, %q) = %v, with the train %d ready at %d", s, order, starts, i, ready)
		}
		if starts[i] != ready {
			waits++
		}
	}
	return waits
}

func TestSingleStartsKnown(t *testing.T) {
	s := impl.Single{A: []int{0, 2}, B: []int{1}, Run: 10, Head: 3}
	together := impl.Single{A: []int{7, 7}, B: []int{7, 7}, Run: 10, Head: 3}
	full := impl.Single{A: repeat(2000, 6), B: repeat(2000, 6), Run: 100, Head: 100}
	known := []struct {
		s         impl.Single
		order     string
		starts    []int
		wait, end int
	}{
		{s, "UDU", []int{0, 10, 20}, 27, 30},
		{s, "UUD", []int{0, 3, 13}, 13, 23},
		{s, "DUU", []int{1, 11, 14}, 23, 24},
		{together, "UUDD", []int{7, 10, 20, 23}, 32, 33},
		{together, "DDUU", []int{7, 10, 20, 23}, 32, 33},
		{together, "UDUD", []int{7, 17, 27, 37}, 60, 47},
		{together, "UDDU", []int{7, 17, 20, 30}, 46, 40},
		// Ready just as the train ahead allows, a minute earlier, and later.
		{impl.Single{A: []int{0, 3}, Run: 10, Head: 3}, "UU", []int{0, 3}, 0, 13},
		{impl.Single{A: []int{0, 2}, Run: 10, Head: 3}, "UU", []int{0, 3}, 1, 13},
		{impl.Single{A: []int{0, 4}, Run: 10, Head: 3}, "UU", []int{0, 4}, 0, 14},
		{impl.Single{A: []int{0}, B: []int{10}, Run: 10, Head: 3}, "UD", []int{0, 10}, 0, 20},
		{impl.Single{A: []int{0}, B: []int{9}, Run: 10, Head: 3}, "UD", []int{0, 10}, 1, 20},
		{impl.Single{A: []int{0}, B: []int{11}, Run: 10, Head: 3}, "UD", []int{0, 11}, 0, 21},
		{impl.Single{A: []int{9}, B: []int{0}, Run: 10, Head: 3}, "DU", []int{0, 10}, 1, 20},
		{impl.Single{A: []int{9}, B: []int{0}, Run: 10, Head: 3}, "UD", []int{9, 19}, 19, 29},
		// No trains at one end, or at both.
		{impl.Single{Run: 10, Head: 3}, "", []int{}, 0, 0},
		{impl.Single{Run: 100, Head: 100}, "", []int{}, 0, 0},
		{impl.Single{A: []int{5}, Run: 10, Head: 3}, "U", []int{5}, 0, 15},
		{impl.Single{B: []int{0}, Run: 1, Head: 1}, "D", []int{0}, 0, 1},
		{impl.Single{B: []int{4, 4, 4}, Run: 10, Head: 10}, "DDD", []int{4, 14, 24}, 30, 34},
		// No start is too late.
		{impl.Single{A: []int{2000, 2000}, Run: 100, Head: 100}, "UU", []int{2000, 2100}, 100, 2200},
		{full, strings.Repeat("UD", 6), []int{2000, 2100, 2200, 2300, 2400, 2500, 2600, 2700, 2800, 2900, 3000, 3100}, 6600, 3200},
	}
	for _, k := range known {
		starts, ok := impl.SingleStarts(k.s, k.order)
		if !ok || !slices.Equal(starts, k.starts) {
			t.Errorf("SingleStarts(%v, %q) = %v, %v", k.s, k.order, starts, ok)
		}
		if wait, end := impl.SingleWait(k.s, k.order), impl.SingleEnd(k.s, k.order); wait != k.wait || end != k.end {
			t.Errorf("SingleWait and SingleEnd of %v and %q are %d and %d", k.s, k.order, wait, end)
		}
	}
}

func TestNoOrder(t *testing.T) {
	for i, s := range someSingles() {
		if i%10 == 0 || len(s.A)+len(s.B) > 4 {
			for _, text := range noOrders(s) {
				checkNoOrder(t, s, text)
			}
		}
	}
	for _, s := range []impl.Single{{A: []int{0, 2}, B: []int{1}, Run: 10, Head: 3}, {A: []int{5}, Run: 10, Head: 3}, {Run: 10, Head: 3}} {
		orders := ordersOf(s)
		for _, text := range allTexts(5, "UDu\x00") {
			if !slices.Contains(orders, text) {
				checkNoOrder(t, s, text)
			}
		}
	}
}

func checkNoOrder(t *testing.T, s impl.Single, text string) {
	t.Helper()
	if starts, ok := impl.SingleStarts(s, text); ok || len(starts) > 0 {
		t.Fatalf("SingleStarts(%v, %.40q) = %v, %v", s, text, starts, ok)
	}
	if wait := impl.SingleWait(s, text); wait != -1 {
		t.Fatalf("SingleWait(%v, %.40q) = %d", s, text, wait)
	}
	if end := impl.SingleEnd(s, text); end != -1 {
		t.Fatalf("SingleEnd(%v, %.40q) = %d", s, text, end)
	}
	if rank := impl.SingleRank(s, text); rank != -1 {
		t.Fatalf("SingleRank(%v, %.40q) = %d", s, text, rank)
	}
}

func TestNoSingle(t *testing.T) {
	for _, s := range noSingles() {
		short := impl.Single{A: shortList(s.A), B: shortList(s.B), Run: s.Run, Head: s.Head}
		for _, order := range []string{"", strings.Repeat("U", len(s.A)) + strings.Repeat("D", len(s.B)), strings.Repeat("D", len(s.B)) + strings.Repeat("U", len(s.A)), "UD", "X"} {
			checkNoOrder(t, s, order)
		}
		if order, ok := impl.SingleBest(s); ok || order != "" {
			t.Fatalf("SingleBest(%v) = %q, %v", short, order, ok)
		}
		if order, ok := impl.SingleFirst(s); ok || order != "" {
			t.Fatalf("SingleFirst(%v) = %.40q, %v", short, order, ok)
		}
		if soon, many := impl.SingleSoon(s), impl.SingleMany(s); soon != -1 || many != -1 {
			t.Fatalf("SingleSoon and SingleMany of %v are %d and %d", short, soon, many)
		}
		for _, rank := range []int{0, 1, -1, math.MinInt, math.MaxInt} {
			if order, ok := impl.SingleNth(s, rank); ok || order != "" {
				t.Fatalf("SingleNth(%v, %d) = %q, %v", short, rank, order, ok)
			}
		}
		if turn, ok := impl.SingleTurn(s); !isNoSingle(turn, ok) {
			t.Fatalf("SingleTurn(%v) = %v, %v", short, turn, ok)
		}
		for _, k := range []int{0, 1, -1, 2, -2, 2000, -2000, 2001, -2001, math.MinInt, math.MaxInt} {
			if later, ok := impl.SingleLater(s, k); !isNoSingle(later, ok) {
				t.Fatalf("SingleLater(%v, %d) = %v, %v", short, k, later, ok)
			}
		}
	}
}

func TestPromise87(t *testing.T) {
	for _, s := range someSingles() {
		best, ok := impl.SingleBest(s)
		least, soon := impl.SingleWait(s, best), impl.SingleSoon(s)
		if !ok || least < 0 || soon < 0 {
			t.Fatalf("SingleBest(%v) = %q, %v, with the wait %d; SingleSoon is %d", s, best, ok, least, soon)
		}
		for _, order := range ordersOf(s) {
			given := cloneSingle(s)
			wait, end := impl.SingleWait(given, order), impl.SingleEnd(given, order)
			if wait != waitOf(s, order) || wait < least || !sameSingle(given, s) {
				t.Fatalf("SingleWait(%v, %q) = %d, and %d for the best order", s, order, wait, least)
			}
			if end < soon {
				t.Fatalf("SingleEnd(%v, %q) = %d, but SingleSoon is %d", s, order, end, soon)
			}
			starts, _ := impl.SingleStarts(s, order)
			if wait != sum(starts)-sum(s.A)-sum(s.B) {
				t.Fatalf("SingleWait(%v, %q) = %d with the starts %v", s, order, wait, starts)
			}
		}
	}
}

func TestPromise88(t *testing.T) {
	longer := 0
	for _, s := range someSingles() {
		for _, order := range ordersOf(s) {
			given := cloneSingle(s)
			end := impl.SingleEnd(given, order)
			if end != endOfOrder(s, order) || !sameSingle(given, s) {
				t.Fatalf("SingleEnd(%v, %q) = %d", s, order, end)
			}
			for _, ready := range append(slices.Clone(s.A), s.B...) {
				if end < ready+s.Run {
					t.Fatalf("SingleEnd(%v, %q) = %d", s, order, end)
				}
			}
			slow := impl.Single{A: s.A, B: s.B, Run: s.Run + 1, Head: s.Head}
			if order == "" || !impl.SingleValid(slow) {
				continue
			}
			longer++
			if later := impl.SingleEnd(slow, order); later <= end {
				t.Fatalf("SingleEnd(%v, %q) = %d, and with a greater Run %d", s, order, end, later)
			}
		}
	}
	if longer == 0 {
		t.Error("no Run can be greater")
	}
}

func TestPromise94(t *testing.T) {
	for _, s := range someSingles() {
		given := cloneSingle(s)
		turn, ok := impl.SingleTurn(given)
		if !ok || !sameSingle(turn, otherWay(s)) || !sameSingle(given, s) {
			t.Fatalf("SingleTurn(%v) = %v, %v", s, turn, ok)
		}
		checkSingleApart(t, turn, given)
		if back, ok := impl.SingleTurn(turn); !ok || !sameSingle(back, s) {
			t.Fatalf("SingleTurn(%v) = %v, %v, not %v", turn, back, ok, s)
		}
		if impl.SingleMany(turn) != impl.SingleMany(s) || impl.SingleSoon(turn) != impl.SingleSoon(s) {
			t.Fatalf("SingleMany or SingleSoon of %v and %v are not the same", s, turn)
		}
		one, fine := impl.SingleBest(s)
		other, good := impl.SingleBest(turn)
		if !fine || !good || impl.SingleWait(s, one) != impl.SingleWait(turn, other) {
			t.Fatalf("%q for %v and %q for %v do not wait as long", one, s, other, turn)
		}
	}
	times := []int{1, 2, 3}
	same, ok := impl.SingleTurn(impl.Single{A: times, B: times, Run: 10, Head: 3})
	if !ok {
		t.Fatal("a line with the same list for both ends is invalid")
	}
	checkSingleApart(t, same, impl.Single{A: times, B: times})
	long := []int{1, 2, 3, 4, 5, 6, 7, 8}
	part := impl.Single{A: long[:2], B: long[2:4], Run: 10, Head: 3}
	turn, _ := impl.SingleTurn(part)
	checkSingleApart(t, turn, part)
}

// laterBounds returns numbers of minutes around those by which the times of a
// line can be later or earlier just so.
func laterBounds(s impl.Single) []int {
	list := []int{0, 1, -1, 7, -7, 1999, 2000, 2001, -1999, -2000, -2001}
	for _, ready := range append(slices.Clone(s.A), s.B...) {
		list = append(list, -ready, -ready-1, -ready+1, 2000-ready, 2001-ready, 1999-ready)
	}
	slices.Sort(list)
	return slices.Compact(list)
}

func TestPromise95(t *testing.T) {
	moved, kept := 0, 0
	for i, s := range someSingles() {
		if i%5 > 0 && i < len(smallSingles()) {
			continue
		}
		best, _ := impl.SingleBest(s)
		soon := impl.SingleSoon(s)
		for _, k := range laterBounds(s) {
			given := cloneSingle(s)
			later, ok := impl.SingleLater(given, k)
			can := k >= -2000 && k <= 2000 && isSingle(laterSingle(s, k))
			if ok != can || !ok && !isNoSingle(later, ok) || !sameSingle(given, s) {
				t.Fatalf("SingleLater(%v, %d) = %v, %v", s, k, later, ok)
			}
			if !ok {
				kept++
				continue
			}
			moved++
			if !sameSingle(later, laterSingle(s, k)) {
				t.Fatalf("SingleLater(%v, %d) = %v", s, k, later)
			}
			checkSingleApart(t, later, given)
			if back, ok := impl.SingleLater(later, -k); !ok || !sameSingle(back, s) {
				t.Fatalf("SingleLater(%v, %d) = %v, %v, not %v", later, -k, back, ok, s)
			}
			if len(best) == 0 {
				k = 0
			}
			order, fine := impl.SingleBest(later)
			if !fine || order != best || impl.SingleWait(later, order) != impl.SingleWait(s, best) || impl.SingleSoon(later) != soon+k {
				t.Fatalf("SingleBest(%v) = %q, %v, and %q for %v", later, order, fine, best, s)
			}
		}
	}
	if moved == 0 || kept == 0 {
		t.Errorf("SingleLater succeeds %d times and fails %d times", moved, kept)
	}
}

func TestSingleLaterKnown(t *testing.T) {
	s := impl.Single{A: []int{5, 9}, B: []int{3, 1990}, Run: 10, Head: 3}
	empty := impl.Single{Run: 10, Head: 3}
	known := []struct {
		s  impl.Single
		k  int
		ok bool
	}{
		{s, 0, true}, {s, 10, true}, {s, 11, false}, {s, -3, true}, {s, -4, false}, {s, 2000, false}, {s, -2000, false},
		{otherWay(s), 10, true}, {otherWay(s), 11, false}, {otherWay(s), -3, true}, {otherWay(s), -4, false},
		{impl.Single{A: []int{0}, Run: 1, Head: 1}, 2000, true}, {impl.Single{A: []int{2000}, Run: 1, Head: 1}, -2000, true},
		{impl.Single{B: []int{0, 1}, Run: 1, Head: 1}, 2000, false}, {impl.Single{B: []int{1999, 2000}, Run: 1, Head: 1}, -2000, false},
		{empty, 0, true}, {empty, 2000, true}, {empty, -2000, true}, {empty, 2001, false}, {empty, -2001, false},
	}
	for _, k := range known {
		later, ok := impl.SingleLater(k.s, k.k)
		if ok != k.ok || ok && !sameSingle(later, laterSingle(k.s, k.k)) || !ok && !isNoSingle(later, ok) {
			t.Errorf("SingleLater(%v, %d) = %v, %v", k.s, k.k, later, ok)
		}
	}
	for _, line := range []impl.Single{s, empty} {
		for _, k := range []int{math.MinInt, math.MinInt + 1, math.MaxInt, math.MaxInt - 1, 1 << 32, -1 << 32, 1<<32 + 1, 4000, -4000} {
			if later, ok := impl.SingleLater(line, k); !isNoSingle(later, ok) {
				t.Errorf("SingleLater(%v, %d) = %v, %v", line, k, later, ok)
			}
		}
	}
}
