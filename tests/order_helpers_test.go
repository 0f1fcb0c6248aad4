package tests

import (
	"math"
	"math/rand/v2"
	"slices"
	"strings"
	"testing"

	"loop.example/blockboxes/impl"
)

// isSingle takes each condition of the document by itself.
func isSingle(s impl.Single) bool {
	for _, times := range [][]int{s.A, s.B} {
		for i, ready := range times {
			if ready < 0 || ready > 2000 || i > 0 && ready < times[i-1] {
				return false
			}
		}
		if len(times) > 6 {
			return false
		}
	}
	return s.Run >= 1 && s.Run <= 100 && s.Head >= 1 && s.Head <= s.Run
}

func cloneSingle(s impl.Single) impl.Single {
	return impl.Single{A: slices.Clone(s.A), B: slices.Clone(s.B), Run: s.Run, Head: s.Head}
}

func sameSingle(a impl.Single, b impl.Single) bool {
	return slices.Equal(a.A, b.A) && slices.Equal(a.B, b.B) && a.Run == b.Run && a.Head == b.Head
}

func isNoSingle(s impl.Single, ok bool) bool {
	return !ok && sameSingle(s, impl.Single{})
}

// queues returns all lists of at most some ready times from 0 to a last one.
func queues(most int, last int) [][]int {
	all := [][]int{{}}
	for _, list := range allLists(most, last+1) {
		if slices.IsSorted(list) {
			all = append(all, laterList(list, -1))
		}
	}
	return all
}

func laterList(times []int, k int) []int {
	later := slices.Clone(times)
	for i := range later {
		later[i] += k
	}
	return later
}

// smallSingles returns all lines of few trains that are ready within a few
// minutes, many of them at one time.
func smallSingles() []impl.Single {
	var lines []impl.Single
	for _, size := range []struct{ trains, last, run int }{{2, 3, 3}, {3, 1, 2}, {1, 5, 4}} {
		for _, a := range queues(size.trains, size.last) {
			for _, b := range queues(size.trains, size.last) {
				for run := 1; run <= size.run; run++ {
					for head := 1; head <= run; head++ {
						lines = append(lines, impl.Single{A: a, B: b, Run: run, Head: head})
					}
				}
			}
		}
	}
	return lines
}

// knownSingles are lines at the limits: with no trains at an end or at both, as
// many as there can be, all ready at one time, and the least and greatest times
// of everything.
func knownSingles() []impl.Single {
	var lines []impl.Single
	runs := [][2]int{{1, 1}, {100, 1}, {100, 100}, {10, 3}}
	for _, run := range runs {
		for _, ready := range []int{0, 1, 1000, 2000} {
			for _, a := range []int{0, 1, 6} {
				for _, b := range []int{0, 1, 6} {
					lines = append(lines, impl.Single{A: repeat(ready, a), B: repeat(ready, b), Run: run[0], Head: run[1]})
				}
			}
		}
		lines = append(lines,
			impl.Single{A: []int{0, 2}, B: []int{1}, Run: run[0], Head: run[1]},
			impl.Single{A: []int{0, 0, 0, 5, 5, 5}, B: []int{0, 0, 5, 5, 9, 9}, Run: run[0], Head: run[1]},
			impl.Single{A: repeat(2000, 6), B: repeat(0, 6), Run: run[0], Head: run[1]},
			impl.Single{A: []int{0, 2000}, B: []int{0, 2000}, Run: run[0], Head: run[1]},
		)
	}
	return lines
}

// randomSingles returns lines of any size with ready times so near to each
// other that trains wait for others.
func randomSingles() []impl.Single {
	random := rand.New(rand.NewPCG(86, 8))
	var lines []impl.Single
	for i := range 40 {
		run := 1 + random.IntN([]int{5, 20, 100}[i%3])
		head := 1 + random.IntN(run)
		if i%5 == 0 {
			head = run
		}
		first := random.IntN(1500)
		times := func() []int {
			list := make([]int, random.IntN(7))
			for j := range list {
				list[j] = first + random.IntN(1+[]int{run, 4 * run, 5}[i%3])
			}
			slices.Sort(list)
			return list
		}
		lines = append(lines, impl.Single{A: times(), B: times(), Run: run, Head: head})
	}
	return lines
}

func largeSingles() []impl.Single {
	return append(knownSingles(), randomSingles()...)
}

func someSingles() []impl.Single {
	return append(smallSingles(), largeSingles()...)
}

// noSingles are lines that are invalid: with a train too many, a time out of
// its range, times that fall, or a Run or a Head out of its range, or such that
// its low bits alone look right.
func noSingles() []impl.Single {
	fine := []int{3, 3, 8}
	lists := [][]int{
		repeat(0, 7), {0, 1, 2, 3, 4, 5, 6}, repeat(2000, 7), make([]int, 8), make([]int, 256), make([]int, 258), make([]int, 100000),
		{1, 0}, {2000, 1999}, {0, 5, 4}, {5, 4, 6}, {0, 0, 0, 0, 1, 0}, {2000, 0},
	}
	odd := []int{-1, 2001, -2, 2002, -2000, 4000, -1 << 32, 1 << 32, 1<<32 + 3, 1 << 62, math.MinInt, math.MinInt + 1, math.MaxInt, math.MaxInt - 1}
	for _, ready := range odd {
		lists = append(lists, []int{ready}, []int{ready, ready}, []int{0, ready}, []int{ready, 2000}, []int{0, ready, 2000}, append(repeat(0, 5), ready), append([]int{ready}, repeat(2000, 5)...))
	}
	lists = slices.DeleteFunc(lists, func(times []int) bool { return isSingle(impl.Single{A: times, Run: 1, Head: 1}) })
	lines := []impl.Single{{}, {A: fine, B: fine}}
	for _, times := range lists {
		lines = append(lines, impl.Single{A: times, B: fine, Run: 10, Head: 3}, impl.Single{A: fine, B: times, Run: 10, Head: 3},
			impl.Single{A: times, Run: 1, Head: 1}, impl.Single{B: times, Run: 100, Head: 100}, impl.Single{A: times, B: times, Run: 5, Head: 5})
	}
	numbers := append([]int{0, 1, 2, 50, 99, 100, 101, 102, 256, 257, 1<<32 + 50}, odd...)
	for _, run := range numbers {
		for _, head := range numbers {
			lines = append(lines, impl.Single{A: fine, B: fine, Run: run, Head: head}, impl.Single{Run: run, Head: head}, impl.Single{A: fine, Run: run, Head: head})
		}
	}
	return slices.DeleteFunc(lines, isSingle)
}

// ordersOf takes, out of all texts of as many letters as there are trains,
// those with the right ones.
func ordersOf(s impl.Single) []string {
	trains := len(s.A) + len(s.B)
	var orders []string
	for number := range 1 << trains {
		order := ""
		for i := range trains {
			order += string("UD"[number>>i&1])
		}
		if strings.Count(order, "U") == len(s.A) {
			orders = append(orders, order)
		}
	}
	slices.Sort(orders)
	return orders
}

// noOrders returns texts that are no orders of the trains of a line: with a
// letter more, less, or another one.
func noOrders(s impl.Single) []string {
	orders := ordersOf(s)
	texts := []string{"", "U", "D", "UD", "X", "\x00", "é", strings.Repeat("U", 13), strings.Repeat("UD", 16), strings.Repeat("D", 100000)}
	for _, order := range []string{orders[0], orders[len(orders)/2], orders[len(orders)-1]} {
		texts = append(texts, order+order, strings.ToLower(order), turned(order)+"U", turned(order))
		for _, letter := range []string{"U", "D", "u", "d", "X", " ", "\n", "\x00", "\xff", "é", "\u0155"} {
			texts = append(texts, order+letter, letter+order)
			for i := range len(order) {
				texts = append(texts, order[:i]+letter+order[i+1:])
			}
		}
		for i := range len(order) {
			texts = append(texts, order[:i]+order[i+1:])
		}
	}
	return slices.DeleteFunc(texts, func(text string) bool { return slices.Contains(orders, text) })
}

// readyOf returns the ready time of each train in an order.
func readyOf(s impl.Single, order string) []int {
	var times []int
	for i := range len(order) {
		if order[i] == 'U' {
			times = append(times, s.A[strings.Count(order[:i], "U")])
		} else {
			times = append(times, s.B[strings.Count(order[:i], "D")])
		}
	}
	return times
}

// startsOf goes on minute by minute until all trains ahead, not just the last
// one, allow a train to start.
func startsOf(s impl.Single, order string) []int {
	var starts []int
	for i, minute := range readyOf(s, order) {
		for j := i - 1; j >= 0; j-- {
			apart := s.Run
			if order[j] == order[i] {
				apart = s.Head
			}
			for minute-starts[j] < apart {
				minute++
			}
		}
		starts = append(starts, minute)
	}
	return starts
}

func waitOf(s impl.Single, order string) int {
	return sum(startsOf(s, order)) - sum(readyOf(s, order))
}

func endOfOrder(s impl.Single, order string) int {
	end := 0
	for _, start := range startsOf(s, order) {
		end = max(end, start+s.Run)
	}
	return end
}

// firstOf sorts all trains, those of A ahead, by their ready times.
func firstOf(s impl.Single) string {
	order := strings.Repeat("U", len(s.A)) + strings.Repeat("D", len(s.B))
	trains := make([]int, len(order))
	for i := range trains {
		trains[i] = i
	}
	ready := readyOf(s, order)
	slices.SortStableFunc(trains, func(i int, j int) int { return ready[i] - ready[j] })
	first := ""
	for _, i := range trains {
		first += order[i : i+1]
	}
	return first
}

func otherWay(s impl.Single) impl.Single {
	return impl.Single{A: s.B, B: s.A, Run: s.Run, Head: s.Head}
}

func laterSingle(s impl.Single, k int) impl.Single {
	return impl.Single{A: laterList(s.A, k), B: laterList(s.B, k), Run: s.Run, Head: s.Head}
}

// checkSingleApart looks whether the lists of a line share memory with each
// other or with those of another one.
func checkSingleApart(t *testing.T, result impl.Single, given impl.Single) {
	t.Helper()
	checkListsApart(t, result.A, result.B, given.A, given.B)
	checkListsApart(t, result.B, result.A, given.A, given.B)
}
