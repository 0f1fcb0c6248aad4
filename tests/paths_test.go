package tests

import (
	"math"
	"slices"
	"testing"

	"loop.example/blockboxes/impl"
)

func reversed(list []impl.Path) []impl.Path {
	back := clonePaths(list)
	slices.Reverse(back)
	return back
}

func without(list []impl.Path, i int) []impl.Path {
	return slices.Delete(clonePaths(list), i, i+1)
}

func TestPromise17(t *testing.T) {
	for _, l := range someLines() {
		given := clonePaths(l.list)
		if !impl.PathsValid(l.n, given) || !samePaths(given, l.list) {
			t.Fatalf("%v are paths over %d sections", l.list, l.n)
		}
		if !impl.PathsValid(l.n, reversed(l.list)) {
			t.Fatalf("%v are paths in the opposite order", l.list)
		}
		for i, p := range l.list {
			if !impl.PathsValid(l.n, l.list[:i]) || !impl.PathsValid(l.n, without(l.list, i)) {
				t.Fatalf("some of %v are paths", l.list)
			}
			if impl.PathsValid(l.n, append(clonePaths(l.list), p)) || impl.PathsValid(l.n, slices.Insert(clonePaths(l.list), 0, p)) {
				t.Fatalf("PathsValid holds with %v twice", p)
			}
			for j, other := range l.list {
				if i != j && len(impl.PathClash(l.n, p, other)) != 0 {
					t.Fatalf("%v and %v clash", p, other)
				}
			}
		}
	}
}

// TestPathsValidThree takes all lists of three paths, one of them maybe none.
func TestPathsValidThree(t *testing.T) {
	all := append(allPaths(1, 3), pathOf(2, 2), pathOf(3, 1), pathOf(-1, 2), pathOf(0, 2001), pathOf(0, 1, 2, 3))
	for _, a := range all {
		for _, b := range all {
			for _, c := range all {
				list := []impl.Path{a, b, c}
				if impl.PathsValid(1, list) != arePaths(1, list) {
					t.Fatalf("PathsValid(1, %v) = %v", list, impl.PathsValid(1, list))
				}
			}
		}
	}
}

func TestPathsValidLimits(t *testing.T) {
	for n := 1; n <= 5; n++ {
		var eight, touching []impl.Path
		for i := range 8 {
			eight = append(eight, evenPath(100*i, n))
			touching = append(touching, runsOf(4*i, repeat(4, n)))
		}
		for _, list := range [][]impl.Path{nil, {}, eight, touching, {evenPath(4, n), evenPath(8, n), evenPath(0, n)}} {
			if !impl.PathsValid(n, list) {
				t.Errorf("%v are paths over %d sections", list, n)
			}
		}
		if impl.PathsValid(n, append(eight, evenPath(1000, n))) || impl.PathsValid(n+1, eight) || impl.PathsValid(n-1, eight) {
			t.Errorf("PathsValid holds for nine paths or other sections")
		}
		for _, list := range noLines(n) {
			if impl.PathsValid(n, list) {
				t.Errorf("%v are no paths over %d sections", list, n)
			}
		}
	}
	for _, n := range noSections {
		for _, list := range [][]impl.Path{nil, {}, {{}}, {evenPath(3, 2)}, {evenPath(3, 6)}, {evenPath(3, 7)}} {
			if impl.PathsValid(n, list) {
				t.Errorf("%v are no paths over %d sections", list, n)
			}
		}
	}
}

// wrongCall is a line and a section with which no function has a result.
type wrongCall struct {
	line
	k int
}

func wrongCalls() []wrongCall {
	var calls []wrongCall
	for n := 1; n <= 5; n++ {
		two := []impl.Path{evenPath(100, n), evenPath(3, n)}
		for _, k := range []int{-1, n, n + 1, 6, math.MinInt, math.MaxInt, 1 << 32} {
			calls = append(calls, wrongCall{line{n, two}, k}, wrongCall{line{n, nil}, k})
		}
		for _, list := range noLines(n) {
			calls = append(calls, wrongCall{line{n, list}, 0}, wrongCall{line{n, list}, n - 1})
		}
	}
	for _, n := range noSections {
		for _, list := range [][]impl.Path{nil, {}, {{}}, {{}, {}}, {evenPath(3, 6), evenPath(100, 6)}, {evenPath(3, 7)}} {
			calls = append(calls, wrongCall{line{n, list}, 0}, wrongCall{line{n, list}, n - 1}, wrongCall{line{n, list}, -1})
		}
	}
	return calls
}

func TestPromise18(t *testing.T) {
	for _, l := range someLines() {
		for k := range l.n {
			given := clonePaths(l.list)
			order, ok := impl.PathsOrder(l.n, given, k)
			if !ok || len(order) != len(l.list) || !samePaths(given, l.list) {
				t.Fatalf("PathsOrder(%d, %v, %d) = %v, %v", l.n, l.list, k, order, ok)
			}
			for i := range l.list {
				if !slices.Contains(order, i) {
					t.Fatalf("PathsOrder(%d, %v, %d) = %v", l.n, l.list, k, order)
				}
			}
			for i := 1; i < len(order); i++ {
				if l.list[order[i]].In[k] < l.list[order[i-1]].Out[k] {
					t.Fatalf("PathsOrder(%d, %v, %d) = %v", l.n, l.list, k, order)
				}
			}
		}
	}
	for _, c := range wrongCalls() {
		if order, ok := impl.PathsOrder(c.n, c.list, c.k); ok || len(order) != 0 {
			t.Errorf("PathsOrder(%d, %v, %d) = %v, %v", c.n, c.list, c.k, order, ok)
		}
	}
}

func TestPathsOrderKnown(t *testing.T) {
	list := []impl.Path{pathOf(20, 25, 30, 31), pathOf(0, 5, 40, 44), pathOf(25, 27, 27, 30)}
	for k, want := range [][]int{{1, 0, 2}, {2, 0, 1}} {
		if order, ok := impl.PathsOrder(2, list, k); !ok || !slices.Equal(order, want) {
			t.Errorf("PathsOrder(2, %v, %d) = %v, %v", list, k, order, ok)
		}
	}
	if passes := impl.PathsPasses(2, list); passes != 3 {
		t.Errorf("PathsPasses(2, %v) = %d", list, passes)
	}
}

// passesOf tells for each pair of trains and box which one comes and which one goes first.
func passesOf(l line) int {
	passes := 0
	for box := 1; box < l.n; box++ {
		for i, a := range l.list {
			for _, b := range l.list[i+1:] {
				comes, goes := a.Out[box-1] <= b.In[box-1], a.Out[box] <= b.In[box]
				if comes && !goes || goes && !comes {
					passes++
				}
			}
		}
	}
	return passes
}

func TestPromise19(t *testing.T) {
	for _, l := range someLines() {
		given := clonePaths(l.list)
		passes := impl.PathsPasses(l.n, given)
		if passes != passesOf(l) || !samePaths(given, l.list) {
			t.Fatalf("PathsPasses(%d, %v) = %d, not %d", l.n, l.list, passes, passesOf(l))
		}
		if again := impl.PathsPasses(l.n, reversed(l.list)); again != passes {
			t.Fatalf("PathsPasses of the paths in the opposite order = %d, not %d", again, passes)
		}
		first, _ := impl.PathsOrder(l.n, l.list, 0)
		same := true
		for k := range l.n {
			order, ok := impl.PathsOrder(l.n, l.list, k)
			same = same && ok && slices.Equal(order, first)
		}
		if (passes == 0) != same {
			t.Fatalf("PathsPasses(%d, %v) = %d", l.n, l.list, passes)
		}
	}
	for _, c := range wrongCalls() {
		want := -1
		if arePaths(c.n, c.list) {
			want = 0
		}
		if passes := impl.PathsPasses(c.n, c.list); passes != want {
			t.Errorf("PathsPasses(%d, %v) = %d", c.n, c.list, passes)
		}
	}
}

func TestPathsPassesKnown(t *testing.T) {
	slow, fast := pathOf(0, 10, 30, 31, 31, 40, 60, 61, 61, 62), pathOf(10, 12, 12, 13, 45, 46, 46, 47, 70, 71)
	if passes := impl.PathsPasses(5, []impl.Path{slow, fast}); passes != 4 {
		t.Errorf("PathsPasses of trains that pass at each box = %d", passes)
	}
	var waves []impl.Path
	for i := range 8 {
		waves = append(waves, pathOf(10*i, 10*i+10, 200-10*i, 210-10*i))
	}
	if passes := impl.PathsPasses(2, waves); passes != 28 {
		t.Errorf("PathsPasses of eight trains that all pass = %d", passes)
	}
}

func busyOf(list []impl.Path, k int) int {
	minutes := 0
	for _, taken := range takenMinutes(list, k) {
		if taken {
			minutes++
		}
	}
	return minutes
}

func TestPromise24(t *testing.T) {
	for _, l := range someLines() {
		for k := range l.n {
			given := clonePaths(l.list)
			busy := impl.PathsBusy(l.n, given, k)
			if busy != busyOf(l.list, k) || !samePaths(given, l.list) {
				t.Fatalf("PathsBusy(%d, %v, %d) = %d", l.n, l.list, k, busy)
			}
			if len(l.list) == 0 {
				continue
			}
			order, _ := impl.PathsOrder(l.n, l.list, k)
			first, last := l.list[order[0]], l.list[order[len(order)-1]]
			gaps := impl.PathsGap(l.n, l.list, k) * (len(l.list) - 1)
			if busy+gaps > last.Out[k]-first.In[k] {
				t.Fatalf("PathsBusy(%d, %v, %d) = %d with %d between", l.n, l.list, k, busy, gaps)
			}
		}
	}
	for n := 1; n <= 5; n++ {
		for k := range n {
			if impl.PathsBusy(n, nil, k) != 0 || impl.PathsBusy(n, []impl.Path{evenPath(9, n)}, k) != 4 {
				t.Errorf("PathsBusy of section %d of %d with a path or none is wrong", k, n)
			}
		}
	}
	if impl.PathsBusy(1, []impl.Path{pathOf(0, 2000)}, 0) != 2000 {
		t.Errorf("PathsBusy of a section that is never empty is wrong")
	}
	for _, c := range wrongCalls() {
		if busy := impl.PathsBusy(c.n, c.list, c.k); busy != -1 {
			t.Errorf("PathsBusy(%d, %v, %d) = %d", c.n, c.list, c.k, busy)
		}
	}
}

// gapOf takes all pairs of trains, not only those that follow each other.
func gapOf(list []impl.Path, k int) int {
	gap := -1
	for _, a := range list {
		for _, b := range list {
			between := b.In[k] - a.Out[k]
			if between >= 0 && (gap < 0 || between < gap) {
				gap = between
			}
		}
	}
	return gap
}

func TestPromise25(t *testing.T) {
	for _, l := range someLines() {
		for k := range l.n {
			given := clonePaths(l.list)
			gap := impl.PathsGap(l.n, given, k)
			if gap != gapOf(l.list, k) || !samePaths(given, l.list) {
				t.Fatalf("PathsGap(%d, %v, %d) = %d, not %d", l.n, l.list, k, gap, gapOf(l.list, k))
			}
		}
	}
	for _, c := range wrongCalls() {
		if gap := impl.PathsGap(c.n, c.list, c.k); gap != -1 {
			t.Errorf("PathsGap(%d, %v, %d) = %d", c.n, c.list, c.k, gap)
		}
	}
}

func TestPathsGapKnown(t *testing.T) {
	wide := []impl.Path{pathOf(1999, 2000), pathOf(0, 1)}
	if gap := impl.PathsGap(1, wide, 0); gap != 1998 {
		t.Errorf("PathsGap(1, %v, 0) = %d", wide, gap)
	}
	list := []impl.Path{pathOf(20, 25, 30, 31), pathOf(0, 5, 40, 44), pathOf(25, 27, 27, 30)}
	if impl.PathsGap(2, list, 0) != 0 || impl.PathsGap(2, list, 1) != 0 || impl.PathsGap(2, list[:2], 0) != 15 || impl.PathsGap(2, list[:2], 1) != 9 {
		t.Errorf("PathsGap of %v is wrong", list)
	}
	for n := 1; n <= 5; n++ {
		for k := range n {
			if impl.PathsGap(n, nil, k) != -1 || impl.PathsGap(n, []impl.Path{evenPath(3, n)}, k) != -1 {
				t.Errorf("PathsGap of less than two paths is not -1")
			}
		}
	}
}
