package tests

import (
	"math"
	"math/rand/v2"
	"slices"
	"strings"
	"testing"

	"loop.example/blockboxes/impl"
)

func TestConstantsOfCircuits(t *testing.T) {
	if impl.CircuitsMax != 8 || impl.AxlesMax != 50 {
		t.Errorf("CircuitsMax is %d and AxlesMax %d", impl.CircuitsMax, impl.AxlesMax)
	}
}

func TestTrackValid(t *testing.T) {
	if many := len(allTracks()); many != 510 {
		t.Fatalf("there are %d tracks", many)
	}
	for _, s := range allTracks() {
		if !impl.TrackValid(s) {
			t.Errorf("%q is no track", s)
		}
	}
	for _, s := range noTracks() {
		if impl.TrackValid(s) {
			t.Errorf("%.40q is a track", s)
		}
	}
	for s, want := range map[string]bool{"": false, "0": true, "1": true, "00000000": true, "11111111": true, "000000000": false, "111111111": false, "012": false} {
		if impl.TrackValid(s) != want {
			t.Errorf("TrackValid(%q) = %v", s, !want)
		}
	}
}

func TestPromise73(t *testing.T) {
	for _, s := range allTracks() {
		for i := range len(s) {
			next, ok := impl.TrackStep(s, i)
			if want, can := stepOfTrack(s, i); next != want || ok != can {
				t.Fatalf("TrackStep(%q, %d) = %q, %v", s, i, next, ok)
			}
			if !ok {
				continue
			}
			if !impl.TrackValid(next) || next[:i] != s[:i] || next[i] == s[i] || next[i+1:] != s[i+1:] {
				t.Fatalf("TrackStep(%q, %d) = %q", s, i, next)
			}
			if !slices.Contains(impl.TrackNext(s), i) {
				t.Fatalf("TrackNext(%q) = %v, without %d", s, impl.TrackNext(s), i)
			}
			if change := impl.TrackBlocks(next) - impl.TrackBlocks(s); change < -1 || change > 1 {
				t.Fatalf("behind TrackStep(%q, %d) = %q there are %d blocks more", s, i, next, change)
			}
		}
		for _, i := range []int{-1, -2, len(s), len(s) + 1, 8, 9, 63, 64, 65, 256, -256, -64, 1 << 32, -1 << 32, math.MinInt, math.MaxInt} {
			if i < 0 || i >= len(s) {
				if next, ok := impl.TrackStep(s, i); ok || next != "" {
					t.Fatalf("TrackStep(%q, %d) = %q, %v", s, i, next, ok)
				}
			}
		}
	}
}

func TestTrackStepKnown(t *testing.T) {
	known := []struct {
		s    string
		i    int
		next string
		ok   bool
	}{
		// One circuit is the first and the last one.
		{"0", 0, "1", true},
		{"1", 0, "0", true},
		{"0", 1, "", false},
		{"0", -1, "", false},
		// The first circuit becomes occupied whatever is to its right, the last one free whatever is to its left.
		{"00", 0, "10", true},
		{"01", 0, "11", true},
		{"01", 1, "00", true},
		{"11", 1, "10", true},
		// The first one is free only with the second one occupied, the last one occupied only with the one ahead of it.
		{"10", 0, "", false},
		{"11", 0, "01", true},
		{"00", 1, "", false},
		{"10", 1, "11", true},
		{"0110", 0, "1110", true},
		{"0110", 1, "0010", true},
		{"0110", 2, "", false},
		{"0110", 3, "0111", true},
		{"101", 1, "111", true},
		{"101", 0, "", false},
		{"101", 2, "100", true},
		{"111", 1, "101", true},
		{"001", 1, "", false},
		{"00000000", 0, "10000000", true},
		{"00000001", 7, "00000000", true},
		{"00000010", 7, "00000011", true},
		{"00000010", 6, "", false},
		{"00000000", 7, "", false},
		{"11111111", 0, "01111111", true},
		{"11111111", 8, "", false},
	}
	for _, k := range known {
		if next, ok := impl.TrackStep(k.s, k.i); next != k.next || ok != k.ok {
			t.Errorf("TrackStep(%q, %d) = %q, %v", k.s, k.i, next, ok)
		}
	}
}

func TestPromise74(t *testing.T) {
	for _, s := range allTracks() {
		next := impl.TrackNext(s)
		if want, _ := stepsOfTrack(s); !slices.Equal(next, want) {
			t.Fatalf("TrackNext(%q) = %v, not %v", s, next, want)
		}
		for i := -2; i < len(s)+2; i++ {
			if _, ok := impl.TrackStep(s, i); ok != slices.Contains(next, i) {
				t.Fatalf("TrackNext(%q) = %v, but the step %d tells %v", s, next, i, ok)
			}
		}
		checkListsApart(t, next, impl.TrackNext(s))
	}
	for n := 1; n <= 8; n++ {
		if next := impl.TrackNext(strings.Repeat("0", n)); !slices.Equal(next, []int{0}) {
			t.Errorf("TrackNext of %d free circuits = %v", n, next)
		}
		if next := impl.TrackNext(strings.Repeat("1", n)); !slices.Equal(next, []int{0, 1, 2, 3, 4, 5, 6, 7}[:n]) {
			t.Errorf("TrackNext of %d occupied circuits = %v", n, next)
		}
	}
	known := map[string][]int{"0": {0}, "1": {0}, "10": {1}, "01": {0, 1}, "0110": {0, 1, 3}, "100": {1}, "1010": {1, 3}, "0101": {0, 2, 3}, "00000001": {0, 7}}
	for s, want := range known {
		if next := impl.TrackNext(s); !slices.Equal(next, want) {
			t.Errorf("TrackNext(%q) = %v", s, next)
		}
	}
}

func TestPromise75(t *testing.T) {
	for _, walk := range someTrackWalks() {
		given := slices.Clone(walk)
		if !impl.TrackWalk(given) || !slices.Equal(given, walk) {
			t.Fatalf("%v is no walk", walk)
		}
		var back []string
		for i := len(walk) - 1; i >= 0; i-- {
			s, _ := impl.TrackTurn(walk[i])
			back = append(back, s)
		}
		if !slices.Equal(back, backwards(walk)) || !impl.TrackWalk(back) {
			t.Fatalf("%v is no walk, but it is one backwards from the other side", back)
		}
		if len(walk) > 200 {
			continue
		}
		for i := range walk {
			if !impl.TrackWalk(walk[:i+1]) || !impl.TrackWalk(walk[i:]) {
				t.Fatalf("a part of the walk %v at %d is none", walk, i)
			}
		}
	}
}

func TestTrackWalkInvalid(t *testing.T) {
	for _, list := range brokenWalks() {
		if impl.TrackWalk(list) {
			t.Fatalf("%.80q is a walk", list)
		}
	}
	for _, s := range noTracks() {
		for _, list := range [][]string{{s}, {"0", s}, {s, "0"}, {"00", s, "00"}, {"00", "10", s}} {
			if impl.TrackWalk(list) {
				t.Fatalf("%.40q is a walk", list)
			}
		}
	}
	tracks := slices.DeleteFunc(allTracks(), func(s string) bool { return len(s) > 5 })
	for _, a := range tracks {
		for _, b := range tracks {
			if list := []string{a, b}; impl.TrackWalk(list) != isWalk(list) {
				t.Fatalf("TrackWalk(%v) = %v", list, !isWalk(list))
			}
		}
	}
}

func TestPromise76(t *testing.T) {
	for _, s := range allTracks() {
		blocks := impl.TrackBlocks(s)
		if blocks != blocksIn(s) {
			t.Fatalf("TrackBlocks(%q) = %d", s, blocks)
		}
		if 2*blocks-1 > len(s) || (blocks == 0) != !strings.Contains(s, "1") {
			t.Fatalf("TrackBlocks(%q) = %d", s, blocks)
		}
		if other, ok := impl.TrackTurn(s); !ok || impl.TrackBlocks(other) != blocks {
			t.Fatalf("TrackBlocks(%q) = %d, but not so of %q", s, blocks, other)
		}
	}
	for s, want := range map[string]int{"0": 0, "1": 1, "11": 1, "10": 1, "01": 1, "101": 2, "1011": 2, "10101010": 4, "01010101": 4, "11111111": 1, "00000000": 0, "10000001": 2, "01111110": 1} {
		if blocks := impl.TrackBlocks(s); blocks != want {
			t.Errorf("TrackBlocks(%q) = %d", s, blocks)
		}
	}
}

func TestTrackTurn(t *testing.T) {
	for _, s := range allTracks() {
		other, ok := impl.TrackTurn(s)
		if !ok || other != mirrored(s) {
			t.Fatalf("TrackTurn(%q) = %q, %v", s, other, ok)
		}
		if back, ok := impl.TrackTurn(other); !ok || back != s {
			t.Fatalf("TrackTurn(%q) = %q, %v, not %q", other, back, ok, s)
		}
	}
	for s, want := range map[string]string{"0": "0", "1": "1", "10": "01", "001": "100", "1100": "0011", "10000000": "00000001", "11010000": "00001011"} {
		if other, ok := impl.TrackTurn(s); !ok || other != want {
			t.Errorf("TrackTurn(%q) = %q, %v", s, other, ok)
		}
	}
}

func TestPromise77(t *testing.T) {
	for n := 1; n <= 8; n++ {
		for long := 1; long <= n; long++ {
			walk, ok := impl.TrackRun(n, long)
			if !ok || !slices.Equal(walk, trainWalk(n, long)) {
				t.Fatalf("TrackRun(%d, %d) = %v, %v", n, long, walk, ok)
			}
			free := strings.Repeat("0", n)
			if len(walk) != 2*n+1 || walk[0] != free || walk[2*n] != free || !impl.TrackWalk(walk) || impl.TrackPassed(walk) != 1 {
				t.Fatalf("TrackRun(%d, %d) = %v", n, long, walk)
			}
			for _, s := range walk {
				if impl.TrackBlocks(s) > 1 || strings.Count(s, "1") > long+1 {
					t.Fatalf("TrackRun(%d, %d) = %v", n, long, walk)
				}
			}
			again, _ := impl.TrackRun(n, long)
			clear(walk[:cap(walk)])
			if !slices.Equal(again, trainWalk(n, long)) {
				t.Fatalf("two results of TrackRun(%d, %d) share memory", n, long)
			}
		}
	}
}

func TestTrackRunKnown(t *testing.T) {
	known := []struct {
		n, long int
		walk    string
	}{
		{1, 1, "0 1 0"},
		{2, 1, "00 10 11 01 00"},
		{2, 2, "00 10 11 01 00"},
		{3, 1, "000 100 110 010 011 001 000"},
		{3, 2, "000 100 110 111 011 001 000"},
		{3, 3, "000 100 110 111 011 001 000"},
		{4, 2, "0000 1000 1100 1110 0110 0111 0011 0001 0000"},
		{8, 8, "00000000 10000000 11000000 11100000 11110000 11111000 11111100 11111110 11111111 01111111 00111111 00011111 00001111 00000111 00000011 00000001 00000000"},
		{8, 6, "00000000 10000000 11000000 11100000 11110000 11111000 11111100 11111110 01111110 01111111 00111111 00011111 00001111 00000111 00000011 00000001 00000000"},
	}
	for _, k := range known {
		if walk, ok := impl.TrackRun(k.n, k.long); !ok || strings.Join(walk, " ") != k.walk {
			t.Errorf("TrackRun(%d, %d) = %v, %v", k.n, k.long, walk, ok)
		}
	}
	lengths := append([]int{1, 2, 7, 8}, noCircuits...)
	for _, n := range lengths {
		for _, long := range append(lengths, n, n+1, n-1) {
			if n >= 1 && n <= 8 && long >= 1 && long <= n {
				continue
			}
			if walk, ok := impl.TrackRun(n, long); ok || len(walk) != 0 {
				t.Errorf("TrackRun(%d, %d) = %v, %v", n, long, walk, ok)
			}
		}
	}
}

func TestPromise78(t *testing.T) {
	for n := 1; n <= 8; n++ {
		ways := map[[2]string]int{}
		for _, a := range tracksOf(n) {
			for b, want := range waysFrom(a) {
				way := impl.TrackWay(a, b)
				if way != want || (way == 0) != (a == b) {
					t.Fatalf("TrackWay(%q, %q) = %d, not %d", a, b, way, want)
				}
				ways[[2]string{a, b}] = way
			}
		}
		if len(ways) != 1<<(2*n) {
			t.Fatalf("there are %d ways on tracks of %d circuits", len(ways), n)
		}
		for ends, way := range ways {
			if other := ways[[2]string{mirrored(ends[1]), mirrored(ends[0])}]; other != way {
				t.Fatalf("TrackWay from %q to %q is %d, but %d backwards from the other side", ends[0], ends[1], way, other)
			}
			least := way + 1
			for _, i := range impl.TrackNext(ends[0]) {
				next, _ := impl.TrackStep(ends[0], i)
				least = min(least, ways[[2]string{next, ends[1]}])
			}
			if least < way-1 || way > 0 && least != way-1 {
				t.Fatalf("TrackWay from %q to %q is %d, and behind a step %d", ends[0], ends[1], way, least)
			}
		}
	}
}

func TestTrackWayKnown(t *testing.T) {
	known := []struct {
		a, b string
		way  int
	}{
		{"0", "0", 0}, {"0", "1", 1}, {"1", "0", 1}, {"1", "1", 0},
		{"00", "01", 3}, {"10", "00", 3}, {"01", "00", 1}, {"00", "10", 1}, {"01", "10", 2},
		{"100", "010", 2}, {"000", "001", 5}, {"000", "010", 3}, {"10000000", "00000001", 14}, {"00000000", "00000001", 15}, {"00000000", "11111111", 8}, {"11111111", "00000000", 8},
		// Tracks of two lengths, or none at all.
		{"0", "00", -1}, {"00", "0", -1}, {"10", "100", -1}, {"000", "00", -1}, {"1", "01", -1}, {"00000000", "0000000", -1},
		{"", "", -1}, {"0", "", -1}, {"", "0", -1}, {"2", "2", -1}, {"000000000", "000000000", -1}, {"00", "0 ", -1},
	}
	for _, k := range known {
		if way := impl.TrackWay(k.a, k.b); way != k.way {
			t.Errorf("TrackWay(%q, %q) = %d", k.a, k.b, way)
		}
	}
	for _, a := range allTracks() {
		for _, b := range []string{a + "0", a + "1", "0" + a, "1" + a, a[1:], a[:len(a)-1], a + a} {
			if way := impl.TrackWay(a, b); way != -1 {
				t.Errorf("TrackWay(%q, %q) = %d", a, b, way)
			}
			if way := impl.TrackWay(b, a); way != -1 {
				t.Errorf("TrackWay(%q, %q) = %d", b, a, way)
			}
		}
	}
}

func TestPromise79(t *testing.T) {
	for _, walk := range someTrackWalks() {
		steps := len(walk) - 1
		passed := impl.TrackPassed(walk)
		if want, _ := circuitsFreed(walk, len(walk[0])-1); passed != want {
			t.Fatalf("TrackPassed(%v) = %d, not %d", walk, passed, want)
		}
		way := impl.TrackWay(walk[0], walk[steps])
		if way > steps || (steps-way)%2 != 0 || passed > (steps+1)/2 {
			t.Fatalf("TrackPassed(%v) = %d, and the way has %d steps", walk, passed, way)
		}
	}
}

func TestPromise80(t *testing.T) {
	seen := map[int]bool{}
	for _, walk := range someTrackWalks() {
		passed := impl.TrackPassed(backwards(walk))
		if _, want := circuitsFreed(walk, 0); passed != want {
			t.Fatalf("TrackPassed of the walk %v backwards from the other side is %d, not %d", walk, passed, want)
		}
		seen[min(passed, 10)] = true
	}
	for many := range 11 {
		if !seen[many] {
			t.Errorf("no walk is passed %d times", many)
		}
	}
}

func TestTrackPassedKnown(t *testing.T) {
	known := []struct {
		walk   string
		passed int
	}{
		{"0", 0}, {"1", 0}, {"0 1", 0}, {"1 0", 1}, {"0 1 0", 1}, {"1 0 1 0", 2}, {"1 0 1 0 1", 2}, {"0 1 0 1 0 1 0", 3},
		{"00 10 11 01", 0}, {"00 10 11 01 00", 1}, {"01 00", 1}, {"11 10 11 10", 2}, {"11 01 11 10", 1}, {"10 11 01 11 01 00", 1},
		// What is no walk has no number.
		{"0 0", -1}, {"", -1}, {"1 x", -1}, {"1 0 00", -1}, {"01 00 01", -1}, {"10 00", -1}, {"11 00", -1},
	}
	for _, k := range known {
		if passed := impl.TrackPassed(strings.Split(k.walk, " ")); passed != k.passed {
			t.Errorf("TrackPassed(%s) = %d", k.walk, passed)
		}
	}
	for _, list := range brokenWalks() {
		given := slices.Clone(list)
		if passed := impl.TrackPassed(given); passed != -1 || !slices.Equal(given, list) {
			t.Fatalf("TrackPassed(%.80q) = %d", list, passed)
		}
	}
}

func TestTrackInvalid(t *testing.T) {
	for _, s := range noTracks() {
		for _, i := range []int{-1, 0, 1, 7, 8, 9, 63, 64, math.MinInt, math.MaxInt} {
			if next, ok := impl.TrackStep(s, i); ok || next != "" {
				t.Fatalf("TrackStep(%.40q, %d) = %.40q, %v", s, i, next, ok)
			}
		}
		if next := impl.TrackNext(s); len(next) != 0 {
			t.Fatalf("TrackNext(%.40q) = %v", s, next)
		}
		if blocks := impl.TrackBlocks(s); blocks != -1 {
			t.Fatalf("TrackBlocks(%.40q) = %d", s, blocks)
		}
		if other, ok := impl.TrackTurn(s); ok || other != "" {
			t.Fatalf("TrackTurn(%.40q) = %.40q, %v", s, other, ok)
		}
		if passed := impl.TrackPassed([]string{s}); passed != -1 {
			t.Fatalf("TrackPassed(%.40q) = %d", s, passed)
		}
		for _, other := range []string{s, "0", "1", "01", "000", "10101010"} {
			if one, two := impl.TrackWay(s, other), impl.TrackWay(other, s); one != -1 || two != -1 {
				t.Fatalf("TrackWay of %.40q and %.40q = %d and %d", s, other, one, two)
			}
		}
	}
}

func TestLongWalks(t *testing.T) {
	random := rand.New(rand.NewPCG(80, 7))
	walk := someTrackWalk(random, "00000000", 50000)
	if !impl.TrackWalk(walk) {
		t.Error("a walk of 50000 steps is none")
	}
	freed, _ := circuitsFreed(walk, 7)
	if passed := impl.TrackPassed(walk); passed != freed {
		t.Errorf("TrackPassed of 50000 steps = %d, not %d", passed, freed)
	}
	walk = append(walk, walk[len(walk)-1])
	if impl.TrackWalk(walk) || impl.TrackPassed(walk) != -1 {
		t.Error("a walk that stands at its end is one")
	}
}
