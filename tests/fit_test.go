package tests

import (
	"math"
	"slices"
	"testing"

	"loop.example/blockboxes/impl"
)

// wrongTimes are times from which on no train can go.
var wrongTimes = []int{-1, -2, 2000, 2001, math.MinInt, math.MaxInt, math.MaxInt - 1, 1<<32 + 5, -1 << 32}

// timesToTry returns times around those at which trains enter or leave a section.
func timesToTry(list []impl.Path, k int) []int {
	times := []int{0, 1, 2, 3, 1980, 1998, 1999, 2000}
	for _, p := range list {
		for _, time := range []int{p.In[k], p.Out[k]} {
			times = append(times, max(time-1, 0), time, time+1, max(time-30, 0))
		}
	}
	slices.Sort(times)
	return slices.Compact(times)
}

func TestPromise20(t *testing.T) {
	for _, l := range shortLines() {
		for k := range l.n {
			for from := range 8 {
				for run := 1; run <= 3; run++ {
					checkFree(t, l, k, from, run)
				}
			}
		}
	}
	for _, l := range longLines() {
		for k := range l.n {
			for _, from := range timesToTry(l.list, k) {
				for _, run := range []int{1, 2, 7, 20, 100} {
					checkFree(t, l, k, from, run)
				}
			}
		}
	}
}

func checkFree(t *testing.T, l line, k int, from int, run int) {
	in, ok := impl.PathsFree(l.n, l.list, k, from, run)
	want := freeOf(l.list, k, from, run)
	if want < 0 {
		if ok || in != 0 {
			t.Fatalf("PathsFree(%d, %v, %d, %d, %d) = %d, %v", l.n, l.list, k, from, run, in, ok)
		}
		return
	}
	if !ok || in != want {
		t.Fatalf("PathsFree(%d, %v, %d, %d, %d) = %d, %v, not %d", l.n, l.list, k, from, run, in, ok, want)
	}
	if again, ok := impl.PathsFree(l.n, l.list, k, in, run); !ok || again != in {
		t.Fatalf("PathsFree(%d, %v, %d, %d, %d) = %d, %v", l.n, l.list, k, in, run, again, ok)
	}
}

func TestPathsFreeLimits(t *testing.T) {
	for n := 1; n <= 5; n++ {
		list := []impl.Path{evenPath(100, n), evenPath(3, n)}
		given := clonePaths(list)
		for _, run := range []int{1, 2, 50, 100} {
			if in, ok := impl.PathsFree(n, given, n-1, 2000-run, run); !ok || in != 2000-run || !samePaths(given, list) {
				t.Errorf("PathsFree for %d minutes up to the last one = %d, %v", run, in, ok)
			}
			for _, from := range append(wrongTimes, 2001-run) {
				if in, ok := impl.PathsFree(n, list, n-1, from, run); ok || in != 0 {
					t.Errorf("PathsFree from %d on for %d minutes = %d, %v", from, run, in, ok)
				}
			}
		}
		for _, run := range []int{0, -1, 101, 2000, math.MinInt, math.MaxInt, 1<<32 + 5, 256 + 5} {
			for _, from := range []int{0, 5, 1500} {
				if in, ok := impl.PathsFree(n, list, 0, from, run); ok || in != 0 {
					t.Errorf("PathsFree for %d minutes = %d, %v", run, in, ok)
				}
			}
		}
	}
	for _, c := range wrongCalls() {
		if in, ok := impl.PathsFree(c.n, c.list, c.k, 10, 5); ok || in != 0 {
			t.Errorf("PathsFree(%d, %v, %d, 10, 5) = %d, %v", c.n, c.list, c.k, in, ok)
		}
	}
}

func TestPathsFreeKnown(t *testing.T) {
	list := []impl.Path{pathOf(20, 30), pathOf(10, 15), pathOf(34, 1990)}
	for _, c := range []struct{ from, run, want int }{
		{0, 10, 0}, {0, 11, -1}, {1, 10, 1990}, {5, 5, 5}, {6, 5, 15}, {15, 5, 15}, {16, 5, 1990}, {12, 6, 1990},
		{16, 4, 16}, {17, 4, 30}, {30, 4, 30}, {31, 3, 31}, {31, 4, 1990}, {34, 1, 1990}, {1990, 10, 1990}, {0, 0, -1}, {11, 12, -1}, {1991, 10, -1},
	} {
		in, ok := impl.PathsFree(1, list, 0, c.from, c.run)
		if ok != (c.want >= 0) || in != max(c.want, 0) {
			t.Errorf("PathsFree(1, %v, 0, %d, %d) = %d, %v, not %d", list, c.from, c.run, in, ok, c.want)
		}
	}
	full := []impl.Path{pathOf(0, 2000)}
	if in, ok := impl.PathsFree(1, full, 0, 0, 1); ok || in != 0 {
		t.Errorf("PathsFree of a section that is never empty = %d, %v", in, ok)
	}
}

// fitCall has the arguments of PathsFit.
type fitCall struct {
	line
	from int
	runs []int
}

func fitCalls() []fitCall {
	var calls []fitCall
	for _, l := range shortLines() {
		if l.n > 3 {
			continue
		}
		for _, runs := range [][]int{{1, 1, 1}, {1, 2, 1}, {2, 1, 3}} {
			for _, from := range []int{0, 1, 3} {
				calls = append(calls, fitCall{l, from, runs[:l.n]})
			}
		}
	}
	for _, l := range longLines() {
		for _, runs := range [][]int{{1, 1, 1, 1, 1}, {5, 7, 2, 9, 3}, {40, 1, 30, 2, 1}, {100, 100, 100, 100, 100}, {1, 1, 25, 1, 12}} {
			for _, from := range timesToTry(l.list, 0) {
				calls = append(calls, fitCall{l, from, runs[:l.n]})
			}
		}
	}
	return calls
}

func TestPromise21(t *testing.T) {
	for _, c := range fitCalls() {
		givenList, givenRuns := clonePaths(c.list), slices.Clone(c.runs)
		fit, ok := impl.PathsFit(c.n, givenList, c.from, givenRuns)
		want, is := fitOf(c.list, c.from, c.runs)
		if ok != is || !samePath(fit, want) || !samePaths(givenList, c.list) || !slices.Equal(givenRuns, c.runs) {
			t.Fatalf("PathsFit(%d, %v, %d, %v) = %v, %v, not %v", c.n, c.list, c.from, c.runs, fit, ok, want)
		}
		if ok {
			checkFit(t, c, fit)
		}
	}
}

func checkFit(t *testing.T, c fitCall, fit impl.Path) {
	if !impl.PathValid(c.n, fit) {
		t.Fatalf("%v of PathsFit is no path", fit)
	}
	for _, p := range c.list {
		if len(impl.PathClash(c.n, p, fit)) != 0 {
			t.Fatalf("%v of PathsFit clashes with %v", fit, p)
		}
	}
	ready := c.from
	for k, in := range fit.In {
		free, ok := impl.PathsFree(c.n, c.list, k, ready, c.runs[k])
		if !ok || free != in {
			t.Fatalf("PathsFit enters section %d at %d, not %d", k, in, free)
		}
		ready = fit.Out[k]
	}
	for _, more := range []int{1, 5} {
		late, ok := impl.PathsFit(c.n, c.list, c.from+more, c.runs)
		for k := 0; ok && k < c.n; k++ {
			if late.In[k] < fit.In[k] {
				t.Fatalf("PathsFit(%d, %v, %d, %v) = %v, earlier than %v", c.n, c.list, c.from+more, c.runs, late, fit)
			}
		}
	}
}

func TestPathsFitApart(t *testing.T) {
	for n := 1; n <= 5; n++ {
		list := []impl.Path{evenPath(100, n), evenPath(3, n)}
		runs := repeat(5, n)
		given := append(slices.Clone(list), impl.Path{In: runs})
		fit, ok := impl.PathsFit(n, list, 0, runs)
		if !ok {
			t.Fatalf("PathsFit(%d, %v, 0, %v) fails", n, list, runs)
		}
		checkApart(t, []impl.Path{fit}, given)
		paths, ok := impl.PathsAdd(n, list, 0, runs)
		if !ok {
			t.Fatalf("PathsAdd(%d, %v, 0, %v) fails", n, list, runs)
		}
		checkApart(t, paths, given)
		roomy := append(make([]impl.Path, 0, 8), list...)
		paths, ok = impl.PathsAdd(n, roomy, 0, runs)
		if !ok || len(roomy[:3][2].In) != 0 {
			t.Fatalf("PathsAdd writes behind the list that it is given")
		}
		paths[0] = impl.Path{}
		if !samePaths(roomy, list) {
			t.Fatalf("the result of PathsAdd shares memory with its list")
		}
	}
}

func TestPathsFitInvalid(t *testing.T) {
	for n := 1; n <= 5; n++ {
		list := []impl.Path{evenPath(100, n), evenPath(3, n)}
		for _, runs := range noRuns(n) {
			if len(runs) == n && slices.Equal(runs, repeat(5, n)) {
				continue
			}
			checkNoFit(t, n, list, 10, runs)
			checkNoFit(t, n, nil, 10, runs)
		}
		for _, from := range append(wrongTimes, 2001-5*n) {
			checkNoFit(t, n, list, from, repeat(5, n))
			checkNoFit(t, n, nil, from, repeat(5, n))
		}
		for _, wrong := range noLines(n) {
			checkNoFit(t, n, wrong, 10, repeat(5, n))
		}
		last, ok := impl.PathsFit(n, list, 2000-5*n, repeat(5, n))
		if !ok || last.Out[n-1] != 2000 {
			t.Errorf("PathsFit up to the last minute = %v, %v", last, ok)
		}
	}
	for _, n := range noSections {
		for _, list := range [][]impl.Path{nil, {}, {{}}, {evenPath(3, 6)}, {evenPath(3, 7)}} {
			for _, runs := range [][]int{nil, {}, {5}, {5, 5}, repeat(5, 6), repeat(5, 7)} {
				checkNoFit(t, n, list, 10, runs)
			}
		}
	}
}

// checkNoFit looks at PathsAdd too, which fails if PathsFit does.
func checkNoFit(t *testing.T, n int, list []impl.Path, from int, runs []int) {
	t.Helper()
	if fit, ok := impl.PathsFit(n, list, from, runs); !isNoPath(fit, ok) {
		t.Fatalf("PathsFit(%d, %v, %d, %v) = %v, %v", n, list, from, runs, fit, ok)
	}
	if paths, ok := impl.PathsAdd(n, list, from, runs); ok || len(paths) != 0 {
		t.Fatalf("PathsAdd(%d, %v, %d, %v) = %v, %v", n, list, from, runs, paths, ok)
	}
}

func TestPathsFitKnown(t *testing.T) {
	ahead := pathOf(10, 15, 15, 22)
	for _, c := range []struct {
		from int
		runs []int
		want impl.Path
	}{
		{8, []int{4, 3}, pathOf(15, 19, 22, 25)},
		{8, []int{2, 3}, pathOf(8, 10, 10, 13)},
		{0, []int{10, 6}, pathOf(0, 10, 22, 28)},
		{0, []int{10, 5}, pathOf(0, 10, 10, 15)},
		{15, []int{1, 100}, pathOf(15, 16, 22, 122)},
		{16, []int{6, 1}, pathOf(16, 22, 22, 23)},
		{10, []int{1, 1}, pathOf(15, 16, 22, 23)},
	} {
		fit, ok := impl.PathsFit(2, []impl.Path{ahead}, c.from, c.runs)
		if !ok || !samePath(fit, c.want) {
			t.Errorf("PathsFit(2, %v, %d, %v) = %v, %v, not %v", ahead, c.from, c.runs, fit, ok, c.want)
		}
	}
	blocked := pathOf(0, 1, 1, 1999)
	checkNoFit(t, 2, []impl.Path{blocked}, 5, []int{3, 2})
	if fit, ok := impl.PathsFit(2, []impl.Path{blocked}, 5, []int{3, 1}); !ok || !samePath(fit, pathOf(5, 8, 1999, 2000)) {
		t.Errorf("PathsFit in the last minute = %v, %v", fit, ok)
	}
}

func TestPromise22(t *testing.T) {
	for _, c := range fitCalls() {
		fit, ok := impl.PathsFit(c.n, c.list, c.from, c.runs)
		if !ok {
			continue
		}
		for i := range c.list {
			other, ok := impl.PathsFit(c.n, without(c.list, i), c.from, c.runs)
			if !ok {
				t.Fatalf("PathsFit(%d, %v, %d, %v) fails without path %d", c.n, c.list, c.from, c.runs, i)
			}
			for k, in := range other.In {
				if in > fit.In[k] {
					t.Fatalf("PathsFit(%d, %v, %d, %v) = %v, but %v without path %d", c.n, c.list, c.from, c.runs, fit, other, i)
				}
			}
		}
		paths, ok := impl.PathsAdd(c.n, c.list, c.from, c.runs)
		if ok != (len(c.list) < 8) || ok && !samePath(paths[len(paths)-1], fit) || !ok && len(paths) != 0 {
			t.Fatalf("PathsAdd(%d, %v, %d, %v) = %v, %v", c.n, c.list, c.from, c.runs, paths, ok)
		}
	}
}

func TestPromise23(t *testing.T) {
	for _, c := range fitCalls() {
		given, givenRuns := clonePaths(c.list), slices.Clone(c.runs)
		paths, ok := impl.PathsAdd(c.n, given, c.from, givenRuns)
		if _, fits := fitOf(c.list, c.from, c.runs); ok != (fits && len(c.list) < 8) {
			t.Fatalf("PathsAdd(%d, %v, %d, %v) = %v, %v", c.n, c.list, c.from, c.runs, paths, ok)
		}
		if !samePaths(given, c.list) || !slices.Equal(givenRuns, c.runs) {
			t.Fatalf("PathsAdd changes %v or %v", c.list, c.runs)
		}
		if ok {
			checkAdd(t, c, paths)
		}
	}
}

func checkAdd(t *testing.T, c fitCall, paths []impl.Path) {
	many := len(c.list)
	if len(paths) != many+1 || !samePaths(paths[:many], c.list) || !impl.PathsValid(c.n, paths) {
		t.Fatalf("PathsAdd(%d, %v, %d, %v) = %v", c.n, c.list, c.from, c.runs, paths)
	}
	for k, run := range c.runs {
		if impl.PathsBusy(c.n, paths, k) != impl.PathsBusy(c.n, c.list, k)+run {
			t.Fatalf("section %d of %v is not busy for %d minutes more", k, paths, run)
		}
		before, _ := impl.PathsOrder(c.n, c.list, k)
		order, ok := impl.PathsOrder(c.n, paths, k)
		others := slices.DeleteFunc(order, func(i int) bool { return i == many })
		if !ok || !slices.Equal(others, before) {
			t.Fatalf("PathsOrder(%d, %v, %d) has the others as %v, not %v", c.n, paths, k, others, before)
		}
	}
}
