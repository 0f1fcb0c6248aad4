package tests

import (
	"math"
	"slices"
	"strings"
	"testing"

	"loop.example/blockboxes/impl"
)

func TestPromise89(t *testing.T) {
	ties, notFirst := 0, 0
	for _, s := range someSingles() {
		given := cloneSingle(s)
		best, ok := impl.SingleBest(given)
		orders := ordersOf(s)
		if !ok || !slices.Contains(orders, best) || !sameSingle(given, s) {
			t.Fatalf("SingleBest(%v) = %q, %v", s, best, ok)
		}
		least := waitOf(s, best)
		as := 0
		for _, order := range orders {
			wait := waitOf(s, order)
			if wait < least || wait == least && order < best {
				t.Fatalf("SingleBest(%v) = %q with the wait %d, but %q has %d", s, best, least, order, wait)
			}
			if wait == least {
				as++
			}
		}
		if as > 1 {
			ties++
		}
		if best != firstOf(s) {
			notFirst++
		}
	}
	if ties == 0 || notFirst == 0 {
		t.Errorf("%d lines have several best orders, %d another one than SingleFirst", ties, notFirst)
	}
}

// knownBest are lines with their best order, the end of the order that ends
// first, and the order in which trains are ready.
var knownBest = []struct {
	s     impl.Single
	best  string
	soon  int
	first string
}{
	{impl.Single{A: []int{0, 2}, B: []int{1}, Run: 10, Head: 3}, "UUD", 23, "UDU"},
	{impl.Single{A: []int{1}, B: []int{0, 2}, Run: 10, Head: 3}, "DDU", 23, "DUD"},
	// All ready at one time: the best order is the first one, byte by byte.
	{impl.Single{A: []int{0}, B: []int{0}, Run: 10, Head: 3}, "DU", 20, "UD"},
	{impl.Single{A: []int{4, 4}, B: []int{4, 4}, Run: 10, Head: 3}, "DDUU", 30, "UUDD"},
	{impl.Single{A: []int{4, 4}, B: []int{4, 4}, Run: 10, Head: 10}, "DDUU", 44, "UUDD"},
	{impl.Single{A: []int{4, 4, 4}, B: []int{4}, Run: 10, Head: 3}, "UUUD", 30, "UUUD"},
	{impl.Single{A: []int{4}, B: []int{4, 4, 4}, Run: 10, Head: 3}, "DDDU", 30, "UDDD"},
	{impl.Single{A: repeat(2000, 6), B: repeat(2000, 6), Run: 100, Head: 100}, "DDDDDDUUUUUU", 3200, "UUUUUUDDDDDD"},
	// Trains of both ends ready at one time, but not all of them.
	{impl.Single{A: []int{0, 10}, B: []int{0, 10}, Run: 10, Head: 3}, "DUUD", 33, "UDUD"},
	{impl.Single{A: []int{0, 6}, B: []int{0}, Run: 10, Head: 1}, "DUU", 21, "UDU"},
	{impl.Single{A: []int{3, 50}, B: []int{3}, Run: 10, Head: 3}, "DUU", 60, "UDU"},
	{impl.Single{A: []int{0, 9}, B: []int{5, 5}, Run: 1, Head: 1}, "UDDU", 10, "UDDU"},
	// UDDD ends first, but DDDU waits least.
	{impl.Single{A: []int{3}, B: []int{0, 9, 9}, Run: 10, Head: 1}, "DDDU", 25, "DUDD"},
	// No trains at one end, or at both.
	{impl.Single{Run: 10, Head: 3}, "", 0, ""},
	{impl.Single{Run: 100, Head: 100}, "", 0, ""},
	{impl.Single{A: []int{0}, Run: 1, Head: 1}, "U", 1, "U"},
	{impl.Single{B: []int{0}, Run: 1, Head: 1}, "D", 1, "D"},
	{impl.Single{A: []int{2000, 2000}, Run: 100, Head: 100}, "UU", 2200, "UU"},
	{impl.Single{B: []int{1, 1, 9}, Run: 10, Head: 3}, "DDD", 19, "DDD"},
}

func TestBestKnown(t *testing.T) {
	for _, k := range knownBest {
		if best, ok := impl.SingleBest(k.s); !ok || best != k.best {
			t.Errorf("SingleBest(%v) = %q, %v", k.s, best, ok)
		}
		if soon := impl.SingleSoon(k.s); soon != k.soon {
			t.Errorf("SingleSoon(%v) = %d", k.s, soon)
		}
		if first, ok := impl.SingleFirst(k.s); !ok || first != k.first {
			t.Errorf("SingleFirst(%v) = %q, %v", k.s, first, ok)
		}
	}
}

func TestPromise90(t *testing.T) {
	for _, s := range someSingles() {
		given := cloneSingle(s)
		soon := impl.SingleSoon(given)
		least := math.MaxInt
		orders := ordersOf(s)
		for _, order := range orders {
			least = min(least, endOfOrder(s, order))
		}
		if soon != least || !sameSingle(given, s) {
			t.Fatalf("SingleSoon(%v) = %d, not %d", s, soon, least)
		}
		if len(s.A) > 0 && len(s.B) > 0 {
			continue
		}
		if only := strings.Repeat("U", len(s.A)) + strings.Repeat("D", len(s.B)); len(orders) != 1 || soon != impl.SingleEnd(s, only) {
			t.Fatalf("SingleSoon(%v) = %d, but SingleEnd of %q is %d", s, soon, only, impl.SingleEnd(s, only))
		}
	}
}

func TestPromise91(t *testing.T) {
	for _, s := range someSingles() {
		given := cloneSingle(s)
		many := impl.SingleMany(given)
		if many != len(ordersOf(s)) || !sameSingle(given, s) {
			t.Fatalf("SingleMany(%v) = %d", s, many)
		}
		want := 1
		if len(s.A) > 0 && len(s.B) > 0 {
			want = impl.SingleMany(impl.Single{A: s.A[1:], B: s.B, Run: s.Run, Head: s.Head}) + impl.SingleMany(impl.Single{A: s.A, B: s.B[1:], Run: s.Run, Head: s.Head})
		}
		if many != want {
			t.Fatalf("SingleMany(%v) = %d, not %d", s, many, want)
		}
	}
	for _, k := range []struct{ a, b, many int }{{0, 0, 1}, {1, 0, 1}, {0, 1, 1}, {6, 0, 1}, {0, 6, 1}, {1, 1, 2}, {2, 1, 3}, {2, 2, 6}, {6, 1, 7}, {3, 5, 56}, {6, 5, 462}, {6, 6, 924}} {
		s := impl.Single{A: repeat(9, k.a), B: repeat(9, k.b), Run: 5, Head: 2}
		if many := impl.SingleMany(s); many != k.many {
			t.Errorf("SingleMany(%v) = %d", s, many)
		}
	}
}

// rankedSingles are lines of each number of trains at both ends, and some others.
func rankedSingles() []impl.Single {
	lines := randomSingles()
	for a := range 7 {
		for b := range 7 {
			lines = append(lines, impl.Single{A: repeat(3, a), B: repeat(4, b), Run: 10, Head: 3})
		}
	}
	return lines
}

func TestPromise92(t *testing.T) {
	for _, s := range rankedSingles() {
		orders := ordersOf(s)
		for rank, want := range orders {
			given := cloneSingle(s)
			order, ok := impl.SingleNth(given, rank)
			if !ok || order != want || impl.SingleRank(s, order) != rank || !sameSingle(given, s) {
				t.Fatalf("SingleNth(%v, %d) = %q, %v, with the rank %d", s, rank, order, ok, impl.SingleRank(s, order))
			}
			if starts, ok := impl.SingleStarts(s, order); !ok || len(starts) != len(order) {
				t.Fatalf("SingleStarts(%v, %q) = %v, %v", s, order, starts, ok)
			}
			if next, ok := impl.SingleNth(s, rank+1); ok != (rank+1 < len(orders)) || ok && next <= order || !ok && next != "" {
				t.Fatalf("SingleNth(%v, %d) = %q, %v, behind %q", s, rank+1, next, ok, order)
			}
		}
		for _, rank := range []int{-1, -2, len(orders), len(orders) + 1, -len(orders), 1000, 1 << 32, 1<<32 + 1, -1 << 32, math.MinInt, math.MinInt + 1, math.MaxInt} {
			if order, ok := impl.SingleNth(s, rank); ok || order != "" {
				t.Fatalf("SingleNth(%v, %d) = %q, %v", s, rank, order, ok)
			}
		}
	}
}

func TestPromise93(t *testing.T) {
	for _, s := range rankedSingles() {
		turn, _ := impl.SingleTurn(s)
		many := impl.SingleMany(s)
		for want, order := range ordersOf(s) {
			given := cloneSingle(s)
			rank := impl.SingleRank(given, order)
			if rank != want || !sameSingle(given, s) {
				t.Fatalf("SingleRank(%v, %q) = %d", s, order, rank)
			}
			if back, ok := impl.SingleNth(s, rank); !ok || back != order {
				t.Fatalf("SingleNth(%v, %d) = %q, %v, not %q", s, rank, back, ok, order)
			}
			other, ok := impl.DirectionsTurn(order)
			if opposite := impl.SingleRank(turn, other); !ok || opposite != many-1-rank {
				t.Fatalf("SingleRank(%v, %q) = %d, and turned %d of %d", s, order, rank, opposite, many)
			}
		}
	}
}

func TestRanksKnown(t *testing.T) {
	known := []struct {
		a, b  int
		order string
		rank  int
	}{
		{2, 1, "DUU", 0}, {2, 1, "UDU", 1}, {2, 1, "UUD", 2}, {1, 2, "DDU", 0}, {1, 2, "DUD", 1}, {1, 2, "UDD", 2},
		{0, 0, "", 0}, {1, 0, "U", 0}, {0, 6, "DDDDDD", 0}, {1, 1, "DU", 0}, {1, 1, "UD", 1},
		{6, 6, "DDDDDDUUUUUU", 0}, {6, 6, "DUUUUUUDDDDD", 461}, {6, 6, "UDDDDDDUUUUU", 462}, {6, 6, "UUUUUUDDDDDD", 923},
	}
	for _, k := range known {
		s := impl.Single{A: repeat(1, k.a), B: repeat(0, k.b), Run: 7, Head: 7}
		if rank := impl.SingleRank(s, k.order); rank != k.rank {
			t.Errorf("SingleRank(%v, %q) = %d", s, k.order, rank)
		}
		if order, ok := impl.SingleNth(s, k.rank); !ok || order != k.order {
			t.Errorf("SingleNth(%v, %d) = %q, %v", s, k.rank, order, ok)
		}
	}
}

func TestPromise96(t *testing.T) {
	together, even := 0, 0
	for _, s := range someSingles() {
		given := cloneSingle(s)
		first, ok := impl.SingleFirst(given)
		if !ok || first != firstOf(s) || !slices.Contains(ordersOf(s), first) || !sameSingle(given, s) {
			t.Fatalf("SingleFirst(%v) = %q, %v, not %q", s, first, ok, firstOf(s))
		}
		ready := readyOf(s, first)
		for i := 1; i < len(ready); i++ {
			if ready[i] < ready[i-1] || ready[i] == ready[i-1] && first[i-1:i+1] == "DU" {
				t.Fatalf("SingleFirst(%v) = %q with the ready times %v", s, first, ready)
			}
			if ready[i] == ready[i-1] && first[i-1:i+1] == "UD" {
				together++
			}
		}
		best, _ := impl.SingleBest(s)
		if impl.SingleWait(s, first) < impl.SingleWait(s, best) {
			t.Fatalf("SingleFirst(%v) = %q, with less wait than %q", s, first, best)
		}
		if s.Head == s.Run {
			even++
			if impl.SingleEnd(s, first) != impl.SingleSoon(s) {
				t.Fatalf("SingleFirst(%v) = %q, but another order ends earlier", s, first)
			}
		}
	}
	if together == 0 || even == 0 {
		t.Errorf("%d trains of both ends are ready at one time, %d lines have equal Run and Head", together, even)
	}
}

func TestPromise97(t *testing.T) {
	for _, s := range someSingles() {
		for _, order := range ordersOf(s) {
			if _, ok := impl.SingleStarts(s, order); !ok {
				t.Fatalf("SingleStarts(%v, %q) fails", s, order)
			}
			checkTokensAndStaff(t, s, order)
		}
		best, _ := impl.SingleBest(s)
		first, _ := impl.SingleFirst(s)
		checkTokensAndStaff(t, s, best)
		checkTokensAndStaff(t, s, first)
	}
}

func checkTokensAndStaff(t *testing.T, s impl.Single, order string) {
	t.Helper()
	a, b, ok := impl.TokenNeeds(order)
	if !ok || a > len(s.A) || b > len(s.B) {
		t.Fatalf("TokenNeeds(%q) = %d, %d, %v for %v", order, a, b, ok, s)
	}
	at := 0
	if strings.HasPrefix(order, "D") {
		at = 1
	}
	kinds, ok := impl.StaffKinds(at, order)
	if !ok || strings.Count(kinds, "S") != changesOf(order) {
		t.Fatalf("StaffKinds(%d, %q) = %q, %v", at, order, kinds, ok)
	}
}
