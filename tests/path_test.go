package tests

import (
	"math"
	"slices"
	"testing"

	"loop.example/blockboxes/impl"
)

func TestConstantsOfPaths(t *testing.T) {
	if impl.BoxesMax != 6 || impl.TimeMax != 2000 || impl.PathsMax != 8 {
		t.Errorf("constants are %d, %d, %d", impl.BoxesMax, impl.TimeMax, impl.PathsMax)
	}
}

func TestPathValid(t *testing.T) {
	for n := 1; n <= 2; n++ {
		for _, p := range candidates(n, -1, 4) {
			given := clonePath(p)
			if impl.PathValid(n, given) != isPath(n, p) || !samePath(given, p) {
				t.Fatalf("PathValid(%d, %v) = %v", n, p, impl.PathValid(n, p))
			}
		}
	}
	for n := 1; n <= 5; n++ {
		for _, p := range []impl.Path{evenPath(0, n), evenPath(3, n), evenPath(2000-6*n+2, n), pathOf([]int{0, 1, 1, 2, 2, 3, 3, 4, 4, 2000}[:2*n]...)} {
			if !impl.PathValid(n, p) || impl.PathValid(n-1, p) || impl.PathValid(n+1, p) {
				t.Errorf("%v is a path over %d sections", p, n)
			}
		}
		for _, p := range noPaths(n) {
			if impl.PathValid(n, p) {
				t.Errorf("%v is no path over %d sections", p, n)
			}
		}
	}
	for _, n := range noSections {
		for _, p := range []impl.Path{{}, evenPath(3, 1), evenPath(3, 2), evenPath(3, 6), evenPath(3, 7)} {
			if impl.PathValid(n, p) {
				t.Errorf("%v is no path over %d sections", p, n)
			}
		}
	}
}

// runsOf returns the path of a train with runs that never stands.
func runsOf(start int, runs []int) impl.Path {
	var p impl.Path
	for k := range runs {
		p.In = append(p.In, start+sum(runs[:k]))
		p.Out = append(p.Out, start+sum(runs[:k+1]))
	}
	return p
}

func TestPromise13(t *testing.T) {
	runs := append(allLists(5, 2), []int{100}, []int{1, 100}, repeat(100, 5), []int{7, 3, 99, 1, 50}, []int{30, 20, 10})
	for _, list := range runs {
		for _, start := range []int{0, 1, 2, 10, 777, 2000 - sum(list) - 1, 2000 - sum(list)} {
			given := slices.Clone(list)
			p, ok := impl.PathRun(start, given)
			if !ok || !samePath(p, runsOf(start, list)) || !slices.Equal(given, list) {
				t.Fatalf("PathRun(%d, %v) = %v, %v", start, list, p, ok)
			}
			n := len(list)
			if !impl.PathValid(n, p) || p.In[0] != start || impl.PathStands(n, p) != 0 || p.Out[n-1] != start+sum(list) {
				t.Fatalf("PathRun(%d, %v) = %v", start, list, p)
			}
			fit, ok := impl.PathsFit(n, nil, start, list)
			if !ok || !samePath(fit, p) {
				t.Fatalf("PathsFit of a line without paths = %v, %v, not %v", fit, ok, p)
			}
			checkApart(t, []impl.Path{p}, []impl.Path{{In: given}})
		}
		for _, start := range []int{-1, 2001 - sum(list), 2000, 2001, math.MinInt, math.MaxInt, math.MaxInt - 1, 1<<32 + 5} {
			if p, ok := impl.PathRun(start, list); !isNoPath(p, ok) {
				t.Fatalf("PathRun(%d, %v) = %v, %v", start, list, p, ok)
			}
		}
	}
}

// noRuns are lists that are not the runs of n sections.
func noRuns(n int) [][]int {
	lists := [][]int{nil, {}, repeat(5, n-1), repeat(5, n+1), repeat(5, 6), make([]int, 1000)}
	for k := range n {
		for _, wrong := range []int{0, -1, 101, 2000, math.MinInt, math.MaxInt, 1<<32 + 5, 256 + 5} {
			list := repeat(5, n)
			list[k] = wrong
			lists = append(lists, list)
		}
	}
	return lists
}

func TestPathRunInvalid(t *testing.T) {
	for n := 1; n <= 6; n++ {
		for _, list := range noRuns(n) {
			if len(list) > 0 && len(list) <= 5 && slices.Min(list) > 0 && slices.Max(list) <= 100 {
				continue
			}
			for _, start := range []int{0, 10, -1, 2000} {
				if p, ok := impl.PathRun(start, list); !isNoPath(p, ok) {
					t.Fatalf("PathRun(%d, %v) = %v, %v", start, list, p, ok)
				}
			}
		}
	}
	if p, ok := impl.PathRun(3, nil); !isNoPath(p, ok) {
		t.Errorf("PathRun without runs = %v, %v", p, ok)
	}
}

// lateOf returns the path with all times later, whether it is one or not.
func lateOf(p impl.Path, k int) impl.Path {
	late := clonePath(p)
	for i := range late.In {
		late.In[i] += k
		late.Out[i] += k
	}
	return late
}

// pathsOfAllSizes returns pairs of a number of sections and a path over them.
func pathsOfAllSizes() []line {
	lines := longLines()
	for _, size := range [][2]int{{1, 6}, {2, 6}, {3, 7}} {
		for _, p := range allPaths(size[0], size[1]) {
			lines = append(lines, line{size[0], []impl.Path{p}})
		}
	}
	for n := 1; n <= 5; n++ {
		wide := pathOf([]int{0, 1, 1, 2, 2, 3, 3, 4, 4, 5}[:2*n]...)
		wide.Out[n-1] = 2000
		edges := []impl.Path{evenPath(0, n), evenPath(2000-6*n+2, n), wide}
		lines = append(lines, line{n, edges})
	}
	return lines
}

func TestPromise14(t *testing.T) {
	for _, l := range pathsOfAllSizes() {
		for _, p := range l.list {
			first, last := p.In[0], p.Out[l.n-1]
			for _, k := range []int{0, 1, -1, 2, -2, 5, 700, -700, -first, -first - 1, 2000 - last, 2001 - last} {
				checkLate(t, l.n, p, k)
			}
		}
	}
}

func checkLate(t *testing.T, n int, p impl.Path, k int) {
	given := clonePath(p)
	late, ok := impl.PathLate(n, given, k)
	want := lateOf(p, k)
	if !isPath(n, want) {
		if !isNoPath(late, ok) {
			t.Fatalf("PathLate(%d, %v, %d) = %v, %v", n, p, k, late, ok)
		}
		return
	}
	if !ok || !samePath(late, want) || !samePath(given, p) {
		t.Fatalf("PathLate(%d, %v, %d) = %v, %v", n, p, k, late, ok)
	}
	checkApart(t, []impl.Path{late}, []impl.Path{given})
	back, ok := impl.PathLate(n, late, -k)
	if !ok || !samePath(back, p) {
		t.Fatalf("PathLate(%d, %v, %d) = %v, %v", n, late, -k, back, ok)
	}
	if impl.PathStands(n, late) != impl.PathStands(n, p) || late.Out[n-1]-late.In[0] != p.Out[n-1]-p.In[0] {
		t.Fatalf("%v stands or takes longer than %v", late, p)
	}
}

func TestPathLateInvalid(t *testing.T) {
	minutes := []int{0, 1, -1, 100, math.MinInt, math.MaxInt, math.MinInt + 1, math.MinInt + 3, math.MaxInt - 3, 1 << 32, -1 << 32, 2001, -2001}
	for n := 1; n <= 5; n++ {
		for _, p := range noPaths(n) {
			for _, k := range minutes {
				if late, ok := impl.PathLate(n, p, k); !isNoPath(late, ok) {
					t.Fatalf("PathLate(%d, %v, %d) = %v, %v", n, p, k, late, ok)
				}
			}
		}
		for _, k := range minutes[4:] {
			for _, p := range []impl.Path{evenPath(0, n), evenPath(3, n), evenPath(1900, n)} {
				if late, ok := impl.PathLate(n, p, k); !isNoPath(late, ok) {
					t.Fatalf("PathLate(%d, %v, %d) = %v, %v", n, p, k, late, ok)
				}
			}
		}
	}
	for _, n := range noSections {
		for _, p := range []impl.Path{{}, evenPath(3, 2), evenPath(3, 6), evenPath(3, 7)} {
			if late, ok := impl.PathLate(n, p, 0); !isNoPath(late, ok) {
				t.Errorf("PathLate(%d, %v, 0) = %v, %v", n, p, late, ok)
			}
		}
	}
}

func TestPromise15(t *testing.T) {
	for _, l := range pathsOfAllSizes() {
		for _, p := range l.list {
			given := clonePath(p)
			stands := impl.PathStands(l.n, given)
			var times []int
			for k := range l.n {
				times = append(times, p.Out[k]-p.In[k])
			}
			if stands+sum(times) != p.Out[l.n-1]-p.In[0] || !samePath(given, p) {
				t.Fatalf("PathStands(%d, %v) = %d", l.n, p, stands)
			}
			if slices.Max(times) > 100 {
				continue
			}
			run, ok := impl.PathRun(p.In[0], times)
			if (stands == 0) != (ok && samePath(run, p)) {
				t.Fatalf("PathStands(%d, %v) = %d, but PathRun is %v", l.n, p, stands, run)
			}
		}
	}
}

func TestPathStandsKnown(t *testing.T) {
	for n, p := range map[int]impl.Path{1: pathOf(0, 2000), 2: pathOf(0, 1, 1999, 2000), 5: pathOf(0, 1, 2, 3, 3, 9, 13, 14, 14, 1500)} {
		want := []int{0, 0, 1998, 0, 0, 5}[n]
		if stands := impl.PathStands(n, p); stands != want {
			t.Errorf("PathStands(%d, %v) = %d, not %d", n, p, stands, want)
		}
	}
	for n := 1; n <= 5; n++ {
		if stands := impl.PathStands(n, evenPath(8, n)); stands != 2*(n-1) {
			t.Errorf("PathStands(%d, %v) = %d", n, evenPath(8, n), stands)
		}
		for _, p := range noPaths(n) {
			if stands := impl.PathStands(n, p); stands != -1 {
				t.Errorf("PathStands(%d, %v) = %d", n, p, stands)
			}
		}
	}
	for _, n := range noSections {
		for _, p := range []impl.Path{{}, evenPath(3, 2), evenPath(3, 6), evenPath(3, 7)} {
			if stands := impl.PathStands(n, p); stands != -1 {
				t.Errorf("PathStands(%d, %v) = %d", n, p, stands)
			}
		}
	}
}

func TestPromise16(t *testing.T) {
	for _, size := range [][2]int{{1, 6}, {2, 5}, {3, 6}} {
		n, all := size[0], allPaths(size[0], size[1])
		for _, a := range all {
			for _, b := range all {
				checkClash(t, n, a, b)
			}
		}
	}
	for _, l := range longLines() {
		for i, a := range l.list {
			for _, k := range []int{0, 1, -1, 9, -9} {
				if late := lateOf(l.list[(i+1)%len(l.list)], k); isPath(l.n, late) {
					checkClash(t, l.n, a, late)
				}
			}
		}
	}
}

func checkClash(t *testing.T, n int, a impl.Path, b impl.Path) {
	givenA, givenB := clonePath(a), clonePath(b)
	sections := impl.PathClash(n, givenA, givenB)
	if !slices.Equal(sections, clashOf(n, a, b)) || !samePath(givenA, a) || !samePath(givenB, b) {
		t.Fatalf("PathClash(%d, %v, %v) = %v", n, a, b, sections)
	}
	if again := impl.PathClash(n, b, a); !slices.Equal(again, sections) {
		t.Fatalf("PathClash(%d, %v, %v) = %v, not %v", n, b, a, again, sections)
	}
	if impl.PathsValid(n, []impl.Path{a, b}) != (len(sections) == 0) {
		t.Fatalf("%v and %v clash in %v, PathsValid is wrong", a, b, sections)
	}
	if samePath(a, b) && len(sections) != n {
		t.Fatalf("%v and itself clash in %v alone", a, sections)
	}
	lateA, okA := impl.PathLate(n, a, 11)
	lateB, okB := impl.PathLate(n, b, 11)
	if okA && okB && !slices.Equal(impl.PathClash(n, lateA, lateB), sections) {
		t.Fatalf("PathClash(%d, %v, %v) is not %v", n, lateA, lateB, sections)
	}
}

func TestPathClashEdges(t *testing.T) {
	p := evenPath(100, 5)
	all := []int{0, 1, 2, 3, 4}
	for late, want := range map[int][]int{0: all, 1: all, 3: all, -3: all, 4: nil, -4: nil, 5: nil, 50: nil} {
		if got := impl.PathClash(5, p, lateOf(p, late)); !slices.Equal(got, want) {
			t.Errorf("PathClash with a path %d minutes later = %v", late, got)
		}
	}
	for k := range 5 {
		around := aroundAt(p, k)
		if got := impl.PathClash(5, p, around); !slices.Equal(got, []int{k}) {
			t.Errorf("PathClash(5, %v, %v) = %v", p, around, got)
		}
		if got := impl.PathClash(5, around, p); !slices.Equal(got, []int{k}) {
			t.Errorf("PathClash(5, %v, %v) = %v", around, p, got)
		}
	}
}

// aroundAt returns a path that is in the section k from before to behind the
// stay of another one, and long before or behind it in the others.
func aroundAt(p impl.Path, k int) impl.Path {
	around := lateOf(p, -50)
	around.In[k], around.Out[k] = p.In[k]-1, p.Out[k]+1
	for i := k + 1; i < len(p.In); i++ {
		around.In[i], around.Out[i] = p.In[i]+50, p.Out[i]+50
	}
	return around
}

func TestPathClashInvalid(t *testing.T) {
	for n := 1; n <= 5; n++ {
		good := evenPath(3, n)
		for _, p := range noPaths(n) {
			for _, pair := range [][2]impl.Path{{p, good}, {good, p}, {p, p}} {
				if sections := impl.PathClash(n, pair[0], pair[1]); len(sections) != 0 {
					t.Errorf("PathClash(%d, %v, %v) = %v", n, pair[0], pair[1], sections)
				}
			}
		}
	}
	for _, n := range noSections {
		for _, p := range []impl.Path{{}, evenPath(3, 2), evenPath(3, 6), evenPath(3, 7)} {
			if sections := impl.PathClash(n, p, p); len(sections) != 0 {
				t.Errorf("PathClash(%d, %v, itself) = %v", n, p, sections)
			}
		}
	}
}
