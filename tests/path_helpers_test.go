package tests

import (
	"math"
	"math/rand/v2"
	"slices"
	"testing"

	"loop.example/blockboxes/impl"
)

// line is a number of sections and paths over them.
type line struct {
	n    int
	list []impl.Path
}

// noSections are numbers of sections that no line has.
var noSections = []int{0, -1, -2, 6, 7, 1000, math.MinInt, math.MaxInt, 1<<32 + 2}

// pathOf returns the path with the In and the Out of each section in turn.
func pathOf(times ...int) impl.Path {
	var p impl.Path
	for i, time := range times {
		if i%2 == 0 {
			p.In = append(p.In, time)
		} else {
			p.Out = append(p.Out, time)
		}
	}
	return p
}

// evenPath takes 4 minutes for each of n sections and stands 2 at each box.
func evenPath(start int, n int) impl.Path {
	var p impl.Path
	for k := range n {
		p.In = append(p.In, start+6*k)
		p.Out = append(p.Out, start+6*k+4)
	}
	return p
}

func clonePath(p impl.Path) impl.Path {
	return impl.Path{In: slices.Clone(p.In), Out: slices.Clone(p.Out)}
}

func clonePaths(list []impl.Path) []impl.Path {
	clone := make([]impl.Path, len(list))
	for i, p := range list {
		clone[i] = clonePath(p)
	}
	return clone
}

func samePath(a impl.Path, b impl.Path) bool {
	return slices.Equal(a.In, b.In) && slices.Equal(a.Out, b.Out)
}

func samePaths(a []impl.Path, b []impl.Path) bool {
	return slices.EqualFunc(a, b, samePath)
}

func isNoPath(p impl.Path, ok bool) bool {
	return !ok && len(p.In) == 0 && len(p.Out) == 0
}

// isPath takes each condition of the document by itself.
func isPath(n int, p impl.Path) bool {
	if n < 1 || n > 5 || len(p.In) != n || len(p.Out) != n {
		return false
	}
	for k := range n {
		if min(p.In[k], p.Out[k]) < 0 || max(p.In[k], p.Out[k]) > 2000 || p.Out[k] <= p.In[k] {
			return false
		}
		if k > 0 && p.In[k] < p.Out[k-1] {
			return false
		}
	}
	return true
}

// isIn reports whether a train is in a section in the minute behind a time.
func isIn(p impl.Path, k int, time int) bool {
	return p.In[k] <= time && time < p.Out[k]
}

// clashOf looks for a minute in which both trains are in a section.
func clashOf(n int, a impl.Path, b impl.Path) []int {
	var sections []int
	for k := range n {
		for time := a.In[k]; time < a.Out[k]; time++ {
			if isIn(b, k, time) {
				sections = append(sections, k)
				break
			}
		}
	}
	return sections
}

func arePaths(n int, list []impl.Path) bool {
	if n < 1 || n > 5 || len(list) > 8 {
		return false
	}
	for i, p := range list {
		if !isPath(n, p) {
			return false
		}
		for _, other := range list[:i] {
			if len(clashOf(n, p, other)) > 0 {
				return false
			}
		}
	}
	return true
}

// takenMinutes tells for each minute whether a section has a train in it.
func takenMinutes(list []impl.Path, k int) []bool {
	taken := make([]bool, 2000)
	for _, p := range list {
		for time := p.In[k]; time < p.Out[k]; time++ {
			taken[time] = true
		}
	}
	return taken
}

// freeOf tries one minute after the other, and returns -1 if none is free.
func freeOf(list []impl.Path, k int, from int, run int) int {
	taken := takenMinutes(list, k)
	for in := from; in+run <= 2000; in++ {
		if !slices.Contains(taken[in:in+run], true) {
			return in
		}
	}
	return -1
}

func fitOf(list []impl.Path, from int, runs []int) (impl.Path, bool) {
	var p impl.Path
	for k, run := range runs {
		in := freeOf(list, k, from, run)
		if in < 0 {
			return impl.Path{}, false
		}
		p.In, p.Out = append(p.In, in), append(p.Out, in+run)
		from = in + run
	}
	return p, true
}

// candidates returns all lists of as many numbers from low to top, as paths.
func candidates(n int, low int, top int) []impl.Path {
	lists := [][]int{{}}
	for range 2 * n {
		var next [][]int
		for _, list := range lists {
			for x := low; x <= top; x++ {
				next = append(next, append(slices.Clone(list), x))
			}
		}
		lists = next
	}
	var all []impl.Path
	for _, list := range lists {
		all = append(all, pathOf(list...))
	}
	return all
}

// allPaths returns all paths over n sections with times up to one.
func allPaths(n int, top int) []impl.Path {
	return slices.DeleteFunc(candidates(n, 0, top), func(p impl.Path) bool { return !isPath(n, p) })
}

// noPaths are just no paths over n sections.
func noPaths(n int) []impl.Path {
	good := evenPath(3, n)
	all := []impl.Path{
		{}, {In: good.In}, {Out: good.Out}, evenPath(3, n-1), evenPath(3, n+1), {In: good.Out, Out: good.In},
		{In: good.In, Out: append(slices.Clone(good.Out), 500)}, {In: append(slices.Clone(good.In), 500), Out: good.Out},
		{In: good.In[:n-1], Out: good.Out}, {In: good.In, Out: good.Out[:n-1]},
		evenPath(-1, n), evenPath(2001-6*n+2, n), evenPath(5000, n),
	}
	for k := range n {
		for _, wrong := range []int{-1, 2001, math.MinInt, math.MaxInt, good.In[k] + 1<<32, good.Out[k], good.Out[k] + 1} {
			p := clonePath(good)
			p.In[k] = wrong
			all = append(all, p)
		}
		for _, wrong := range []int{-1, 2001, math.MinInt, math.MaxInt, good.Out[k] + 1<<32, good.In[k], good.In[k] - 1} {
			p := clonePath(good)
			p.Out[k] = wrong
			all = append(all, p)
		}
		if k > 0 {
			p := clonePath(good)
			p.In[k] = p.Out[k-1] - 1
			all = append(all, p)
		}
	}
	return all
}

// noLines are lists that are just no paths over n sections.
func noLines(n int) [][]impl.Path {
	var nine, eightTwice []impl.Path
	for i := range 9 {
		nine = append(nine, evenPath(100*i, n))
		eightTwice = append(eightTwice, evenPath(100*(i%8), n))
	}
	near := evenPath(503, n)
	lines := [][]impl.Path{nine, eightTwice, {nine[1], nine[1]}, {nine[1], nine[2], nine[1]}, {evenPath(500, n), near}, {near, evenPath(500, n)}}
	for _, p := range noPaths(n) {
		lines = append(lines, []impl.Path{p}, []impl.Path{nine[2], p}, []impl.Path{p, nine[2]}, []impl.Path{nine[2], p, nine[4]})
	}
	return lines
}

// somePath returns a path that stands at boxes and ends by a time, if it is one.
func somePath(random *rand.Rand, n int, until int) impl.Path {
	var p impl.Path
	time := random.IntN(until)
	for range n {
		time += random.IntN(4) * random.IntN(until/(4*n)+1)
		p.In = append(p.In, time)
		time += 1 + random.IntN(min(until/(4*n)+1, 120))
		p.Out = append(p.Out, time)
	}
	return p
}

// fullLine adds paths as long as tries are left, and returns at most `most`.
func fullLine(random *rand.Rand, n int, most int, until int) line {
	l := line{n: n}
	for range 400 {
		p := somePath(random, n, until)
		if len(l.list) < most && p.Out[n-1] <= until && arePaths(n, append(clonePaths(l.list), p)) {
			l.list = append(l.list, p)
		}
	}
	return l
}

// shortLines returns all lines of at most two paths with small times, in each
// order, some of three, and those without paths.
func shortLines() []line {
	var lines []line
	for _, size := range [][2]int{{1, 5}, {2, 5}, {3, 6}} {
		n, all := size[0], allPaths(size[0], size[1])
		lines = append(lines, line{n: n})
		for _, a := range all {
			lines = append(lines, line{n, []impl.Path{a}})
			for _, b := range all {
				if len(clashOf(n, a, b)) == 0 {
					lines = append(lines, line{n, []impl.Path{a, b}})
				}
			}
		}
	}
	return append(lines, line{n: 4}, line{n: 5})
}

// longLines returns lines of up to eight paths, crowded ones and wide ones.
func longLines() []line {
	random := rand.New(rand.NewPCG(5, 2))
	var lines []line
	for n := 1; n <= 5; n++ {
		for most := 1; most <= 8; most++ {
			for _, until := range []int{20 * n, 60 * n, 1200, 2000} {
				for range 3 {
					lines = append(lines, fullLine(random, n, most, until))
				}
			}
		}
	}
	return lines
}

func someLines() []line {
	return append(shortLines(), longLines()...)
}

// checkApart writes into each slice of paths, up to its capacity, and looks
// whether this changes another slice of them or one of the given paths.
func checkApart(t *testing.T, results []impl.Path, given []impl.Path) {
	t.Helper()
	want := clonePaths(given)
	var parts [][]int
	for _, p := range results {
		parts = append(parts, p.In, p.Out)
	}
	for i, part := range parts {
		before := clonePaths(results)
		kept := slices.Clone(part[:cap(part)])
		for j := range kept {
			part[:cap(part)][j] = -77
		}
		for j, p := range results {
			if i != 2*j && !slices.Equal(p.In, before[j].In) || i != 2*j+1 && !slices.Equal(p.Out, before[j].Out) {
				t.Fatalf("slices of the result %v share memory", before)
			}
		}
		if !samePaths(given, want) {
			t.Fatalf("the result %v shares memory with the argument %v", before, want)
		}
		copy(part[:cap(part)], kept)
	}
}
