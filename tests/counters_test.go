package tests

import (
	"math"
	"math/rand/v2"
	"slices"
	"testing"

	"loop.example/blockboxes/impl"
)

func TestCountsValid(t *testing.T) {
	for _, counts := range someCounts() {
		given := slices.Clone(counts)
		if !impl.CountsValid(given) || !slices.Equal(given, counts) {
			t.Errorf("%v are no counts", counts)
		}
	}
	for _, list := range noCounts() {
		if impl.CountsValid(list) {
			t.Errorf("%v are counts", shortList(list))
		}
	}
	known := []struct {
		list []int
		ok   bool
	}{
		{nil, false}, {[]int{0}, true}, {[]int{50}, true}, {[]int{51}, false}, {[]int{-1}, false}, {[]int{0, 50, 51}, false}, {[]int{-1, 50}, false},
		{make([]int, 8), true}, {make([]int, 9), false}, {repeat(50, 8), true}, {append(repeat(50, 7), 51), false}, {append(repeat(0, 7), -1), false},
	}
	for _, k := range known {
		if impl.CountsValid(k.list) != k.ok {
			t.Errorf("CountsValid(%v) = %v", k.list, !k.ok)
		}
	}
}

// shortList is for messages about lists that may be very long.
func shortList(list []int) []int {
	return list[:min(len(list), 20)]
}

func TestPromise81(t *testing.T) {
	fine := 0
	for _, counts := range someCounts() {
		n := len(counts)
		for _, pulse := range append(pulsesOf(n), noPulses(n)...) {
			given := slices.Clone(counts)
			behind, ok := impl.CountsPulse(given, pulse)
			if want, can := behindPulse(counts, pulse); ok != can || !slices.Equal(behind, want) || !slices.Equal(given, counts) {
				t.Fatalf("CountsPulse(%v, %d) = %v, %v", counts, pulse, behind, ok)
			}
			checkListsApart(t, behind, given)
			if !ok {
				continue
			}
			fine++
			more := 0
			switch pulse {
			case 0, -1 - n:
				more = 1
			case -1, n:
				more = -1
			}
			if !impl.CountsValid(behind) || sum(behind)-sum(counts) != more {
				t.Fatalf("CountsPulse(%v, %d) = %v", counts, pulse, behind)
			}
			if back, ok := impl.CountsPulse(behind, -1-pulse); !ok || !slices.Equal(back, counts) {
				t.Fatalf("CountsPulse(%v, %d) = %v, %v, not %v", behind, -1-pulse, back, ok, counts)
			}
		}
	}
	if fine < 2000 {
		t.Errorf("only %d pulses can be done", fine)
	}
}

func TestCountsPulseKnown(t *testing.T) {
	known := []struct {
		counts []int
		pulse  int
		behind []int
	}{
		// One section has a counter at each end.
		{[]int{3}, 0, []int{4}},
		{[]int{3}, -1, []int{2}},
		{[]int{3}, 1, []int{2}},
		{[]int{3}, -2, []int{4}},
		{[]int{3}, 2, nil},
		{[]int{3}, -3, nil},
		// Between two sections an axle leaves one for the other.
		{[]int{3, 5}, 0, []int{4, 5}},
		{[]int{3, 5}, 1, []int{2, 6}},
		{[]int{3, 5}, 2, []int{3, 4}},
		{[]int{3, 5}, -1, []int{2, 5}},
		{[]int{3, 5}, -2, []int{4, 4}},
		{[]int{3, 5}, -3, []int{3, 6}},
		{[]int{3, 5}, 3, nil},
		{[]int{3, 5}, -4, nil},
		// No axle leaves an empty section, and none enters a full one.
		{[]int{0}, 1, nil},
		{[]int{0}, -1, nil},
		{[]int{1}, 1, []int{0}},
		{[]int{1}, -1, []int{0}},
		{[]int{0, 1}, 1, nil},
		{[]int{1, 0}, -2, nil},
		{[]int{49}, 0, []int{50}},
		{[]int{49}, -2, []int{50}},
		{[]int{50}, 0, nil},
		{[]int{50}, -2, nil},
		{[]int{50, 50}, 1, nil},
		{[]int{50, 50}, -2, nil},
		{[]int{50, 49}, 1, []int{49, 50}},
		{[]int{50, 0}, -1, []int{49, 0}},
		{repeat(1, 8), 8, []int{1, 1, 1, 1, 1, 1, 1, 0}},
		{repeat(1, 8), -9, []int{1, 1, 1, 1, 1, 1, 1, 2}},
		{repeat(1, 8), 4, []int{1, 1, 1, 0, 2, 1, 1, 1}},
		{repeat(1, 8), 9, nil},
		{repeat(1, 8), -10, nil},
		{[]int{1, 1}, math.MaxInt, nil},
		{[]int{1, 1}, math.MinInt, nil},
	}
	for _, k := range known {
		if behind, ok := impl.CountsPulse(k.counts, k.pulse); !slices.Equal(behind, k.behind) || ok != (k.behind != nil) {
			t.Errorf("CountsPulse(%v, %d) = %v, %v", k.counts, k.pulse, behind, ok)
		}
	}
}

func TestPromise82(t *testing.T) {
	random := rand.New(rand.NewPCG(82, 7))
	for _, counts := range someCounts() {
		for _, many := range []int{0, 1, 2, 20, 300} {
			pulses, end := somePulses(random, counts, many)
			givenCounts, givenPulses := slices.Clone(counts), slices.Clone(pulses)
			behind, ok := impl.CountsRun(givenCounts, givenPulses)
			if !ok || !slices.Equal(behind, end) || !slices.Equal(givenCounts, counts) || !slices.Equal(givenPulses, pulses) {
				t.Fatalf("CountsRun(%v, %v) = %v, %v, not %v", counts, pulses, behind, ok, end)
			}
			checkListsApart(t, behind, givenCounts, givenPulses)
			net, ok := impl.CountsNet(len(counts), pulses)
			for k := range counts {
				if !ok || behind[k]-counts[k] != net[k]-net[k+1] {
					t.Fatalf("CountsRun(%v, %v) = %v, but CountsNet is %v, %v", counts, pulses, behind, net, ok)
				}
			}
			at := random.IntN(many + 1)
			middle, first := impl.CountsRun(counts, pulses[:at])
			last, rest := impl.CountsRun(middle, pulses[at:])
			if !first || !rest || !slices.Equal(last, end) {
				t.Fatalf("CountsRun of %v and %v from %v on ends with %v, %v", pulses[:at], pulses[at:], counts, last, rest)
			}
		}
	}
}

// TestCountsRunFails has one pulse that can't be done among others.
func TestCountsRunFails(t *testing.T) {
	random := rand.New(rand.NewPCG(83, 7))
	for _, counts := range someCounts() {
		n := len(counts)
		pulses, _ := somePulses(random, counts, 12)
		for _, pulse := range append(noPulses(n), pulsesOf(n)...) {
			at := random.IntN(len(pulses) + 1)
			list := slices.Insert(slices.Clone(pulses), at, pulse)
			behind, ok := impl.CountsRun(counts, list)
			if want, can := behindPulses(counts, list); ok != can || !slices.Equal(behind, want) {
				t.Fatalf("CountsRun(%v, %v) = %v, %v, not %v, %v", counts, list, behind, ok, want, can)
			}
		}
	}
	known := []struct {
		counts []int
		pulses []int
		behind []int
	}{
		{[]int{0, 2}, []int{0, 0, 1, -3}, []int{1, 4}},
		{[]int{0}, nil, []int{0}},
		{[]int{0}, []int{0, 1, 0, -1, -2, 1}, []int{0}},
		// The order of pulses counts, though all together would do.
		{[]int{0}, []int{1, 0}, nil},
		{[]int{50}, []int{0, 1}, nil},
		{[]int{50}, []int{1, 0}, []int{50}},
		{[]int{0, 0}, []int{0, 1, 2, 2}, nil},
		{[]int{0, 0}, []int{0, 1, 2, 3}, nil},
		{[]int{0}, repeat(0, 50), []int{50}},
		{[]int{0}, repeat(0, 51), nil},
		{[]int{0}, []int{-2, -2, -2}, []int{3}},
		{[]int{0, 0, 0}, []int{-4, -3, -2, -1}, []int{0, 0, 0}},
	}
	for _, k := range known {
		if behind, ok := impl.CountsRun(k.counts, k.pulses); !slices.Equal(behind, k.behind) || ok != (k.behind != nil) {
			t.Errorf("CountsRun(%v, %v) = %v, %v", k.counts, k.pulses, behind, ok)
		}
	}
	// There is no greatest number of pulses.
	if behind, ok := impl.CountsRun([]int{0, 7}, slices.Repeat([]int{0, 1, 2}, 50000)); !ok || !slices.Equal(behind, []int{0, 7}) {
		t.Errorf("CountsRun of 150000 pulses = %v, %v", behind, ok)
	}
}

func TestPromise83(t *testing.T) {
	for _, counts := range someCounts() {
		given := slices.Clone(counts)
		free := impl.CountsClear(given)
		var want []int
		for k, axles := range counts {
			if axles == 0 {
				want = append(want, k)
			}
		}
		if !slices.Equal(free, want) || !slices.Equal(given, counts) {
			t.Fatalf("CountsClear(%v) = %v", counts, free)
		}
		checkListsApart(t, free, given, impl.CountsClear(counts))
		for _, k := range free {
			behind, ok := impl.CountsPulse(counts, k)
			if ok != (k == 0 || !slices.Contains(free, k-1)) {
				t.Fatalf("CountsPulse(%v, %d) = %v, %v, with CountsClear %v", counts, k, behind, ok, free)
			}
			if now := impl.CountsClear(behind); ok && slices.Contains(now, k) {
				t.Fatalf("behind CountsPulse(%v, %d) = %v CountsClear is %v", counts, k, behind, now)
			}
		}
	}
	known := []struct {
		counts, free []int
	}{
		{[]int{0}, []int{0}},
		{[]int{1}, nil},
		{[]int{50}, nil},
		{[]int{0, 1}, []int{0}},
		{[]int{1, 0}, []int{1}},
		{[]int{0, 3, 0, 0, 50, 1, 2, 0}, []int{0, 2, 3, 7}},
		{make([]int, 8), []int{0, 1, 2, 3, 4, 5, 6, 7}},
		{repeat(50, 8), nil},
	}
	for _, k := range known {
		if free := impl.CountsClear(k.counts); !slices.Equal(free, k.free) {
			t.Errorf("CountsClear(%v) = %v", k.counts, free)
		}
	}
}

// randomPulses returns pulses of n sections, whether counts allow them or not.
func randomPulses(random *rand.Rand, n int, many int) []int {
	all := pulsesOf(n)
	var pulses []int
	for range many {
		pulses = append(pulses, all[random.IntN(len(all))])
	}
	return pulses
}

func TestPromise84(t *testing.T) {
	random := rand.New(rand.NewPCG(84, 7))
	for n := 1; n <= 8; n++ {
		for many := range 60 {
			pulses := randomPulses(random, n, many)
			given := slices.Clone(pulses)
			net, ok := impl.CountsNet(n, given)
			if !ok || len(net) != n+1 || !slices.Equal(net, netOf(n, pulses)) || !slices.Equal(given, pulses) {
				t.Fatalf("CountsNet(%d, %v) = %v, %v", n, pulses, net, ok)
			}
			checkListsApart(t, net, given)
			more := 0
			for _, pulse := range pulses {
				if pulse < 0 {
					more--
				} else {
					more++
				}
			}
			if sum(net) != more {
				t.Fatalf("CountsNet(%d, %v) = %v", n, pulses, net)
			}
			twice, ok := impl.CountsNet(n, slices.Repeat(pulses, 2))
			for counter, axles := range net {
				if !ok || twice[counter] != 2*axles {
					t.Fatalf("CountsNet(%d, %v) = %v, and twice %v, %v", n, pulses, net, twice, ok)
				}
			}
			for _, wrong := range noPulses(n) {
				list := slices.Insert(slices.Clone(pulses), random.IntN(many+1), wrong)
				if net, ok := impl.CountsNet(n, list); ok || len(net) != 0 {
					t.Fatalf("CountsNet(%d, %v) = %v, %v", n, list, net, ok)
				}
			}
		}
	}
}

func TestCountsNetKnown(t *testing.T) {
	known := []struct {
		n      int
		pulses []int
		net    []int
	}{
		{1, nil, []int{0, 0}},
		{8, nil, make([]int, 9)},
		{1, []int{0, 0, 1, -1}, []int{1, 1}},
		{1, []int{-2, -2}, []int{0, -2}},
		{1, []int{2}, nil},
		{1, []int{-3}, nil},
		{2, []int{2, -3, -3, 1}, []int{0, 1, -1}},
		{8, []int{8, 8, -9, 0}, []int{1, 0, 0, 0, 0, 0, 0, 0, 1}},
		{8, []int{9}, nil},
		{8, []int{-10}, nil},
		// More axles than a section can have, or that were never there.
		{1, repeat(0, 51), []int{51, 0}},
		{1, repeat(1, 1000), []int{0, 1000}},
		{2, repeat(-3, 1000), []int{0, 0, -1000}},
	}
	for _, k := range known {
		if net, ok := impl.CountsNet(k.n, k.pulses); !slices.Equal(net, k.net) || ok != (k.net != nil) {
			t.Errorf("CountsNet(%d, %v) = %v, %v", k.n, shortList(k.pulses), net, ok)
		}
	}
	for _, n := range noCircuits {
		for _, pulses := range [][]int{nil, {}, {0}, {-1}, {0, 1, -1}, {9}, {math.MinInt}, {math.MaxInt}} {
			if net, ok := impl.CountsNet(n, pulses); ok || len(net) != 0 {
				t.Errorf("CountsNet(%d, %v) = %v, %v", n, pulses, shortList(net), ok)
			}
		}
	}
}

func TestPromise85(t *testing.T) {
	for n := 1; n <= 8; n++ {
		for axles := 1; axles <= 50; axles++ {
			pulses, ok := impl.CountsTrain(n, axles)
			if !ok || len(pulses) != axles*(n+1) || !slices.IsSorted(pulses) {
				t.Fatalf("CountsTrain(%d, %d) = %v, %v", n, axles, pulses, ok)
			}
			if net, ok := impl.CountsNet(n, pulses); !ok || !slices.Equal(net, repeat(axles, n+1)) {
				t.Fatalf("CountsNet of CountsTrain(%d, %d) = %v, %v", n, axles, net, ok)
			}
			for counter := range n + 1 {
				want := make([]int, n)
				if counter < n {
					want[counter] = axles
				}
				behind, ok := impl.CountsRun(make([]int, n), pulses[:axles*(counter+1)])
				if !ok || !slices.Equal(behind, want) {
					t.Fatalf("with CountsTrain(%d, %d) behind the counter %d, CountsRun is %v, %v", n, axles, counter, behind, ok)
				}
			}
			again, _ := impl.CountsTrain(n, axles)
			checkListsApart(t, pulses, again)
		}
	}
}

func TestCountsTrainKnown(t *testing.T) {
	known := []struct {
		n, axles int
		pulses   []int
	}{
		{1, 1, []int{0, 1}},
		{1, 3, []int{0, 0, 0, 1, 1, 1}},
		{2, 2, []int{0, 0, 1, 1, 2, 2}},
		{8, 1, []int{0, 1, 2, 3, 4, 5, 6, 7, 8}},
		{1, 50, append(repeat(0, 50), repeat(1, 50)...)},
	}
	for _, k := range known {
		if pulses, ok := impl.CountsTrain(k.n, k.axles); !ok || !slices.Equal(pulses, k.pulses) {
			t.Errorf("CountsTrain(%d, %d) = %v, %v", k.n, k.axles, pulses, ok)
		}
	}
	noAxles := []int{0, -1, -50, 51, 52, 100, 256, 257, 1 << 32, 1<<32 + 1, -1 << 32, math.MinInt, math.MinInt + 1, math.MaxInt}
	for _, axles := range noAxles {
		for _, n := range append([]int{1, 2, 8}, noCircuits...) {
			if pulses, ok := impl.CountsTrain(n, axles); ok || len(pulses) != 0 {
				t.Errorf("CountsTrain(%d, %d) = %v, %v", n, axles, shortList(pulses), ok)
			}
		}
	}
	for _, n := range noCircuits {
		for _, axles := range []int{1, 2, 50} {
			if pulses, ok := impl.CountsTrain(n, axles); ok || len(pulses) != 0 {
				t.Errorf("CountsTrain(%d, %d) = %v, %v", n, axles, shortList(pulses), ok)
			}
		}
	}
}

func TestCountsInvalid(t *testing.T) {
	for _, list := range noCounts() {
		given := slices.Clone(list)
		for _, pulse := range []int{0, 1, -1, -2, 4, 8, -9, 9, -10, math.MinInt, math.MaxInt} {
			if behind, ok := impl.CountsPulse(given, pulse); ok || len(behind) != 0 {
				t.Fatalf("CountsPulse(%v, %d) = %v, %v", shortList(list), pulse, shortList(behind), ok)
			}
		}
		for _, pulses := range [][]int{nil, {0}, {-1}, {1}, {0, -1}, {-1, 0}, {0, 1, 2}, {math.MinInt}} {
			if behind, ok := impl.CountsRun(given, pulses); ok || len(behind) != 0 {
				t.Fatalf("CountsRun(%v, %v) = %v, %v", shortList(list), pulses, shortList(behind), ok)
			}
		}
		if free := impl.CountsClear(given); len(free) != 0 {
			t.Fatalf("CountsClear(%v) = %v", shortList(list), shortList(free))
		}
		if !slices.Equal(given, list) {
			t.Fatalf("the argument %v was changed", shortList(list))
		}
	}
}
