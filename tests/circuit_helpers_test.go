package tests

import (
	"math"
	"math/rand/v2"
	"slices"
	"strings"
	"testing"

	"loop.example/blockboxes/impl"
)

// noCircuits are numbers that no track has as its circuits and no counters as
// their sections.
var noCircuits = []int{0, -1, -2, -8, 9, 10, 16, 64, 65, 256, 257, 1 << 32, 1<<32 + 3, -1 << 32, math.MinInt, math.MinInt + 1, math.MaxInt, math.MaxInt - 1}

// allTracks returns all tracks, the short ones first.
func allTracks() []string {
	return allTexts(8, "01")[1:]
}

// tracksOf returns all tracks of n circuits.
func tracksOf(n int) []string {
	return slices.DeleteFunc(allTracks(), func(s string) bool { return len(s) != n })
}

// isTrack takes each letter by itself.
func isTrack(s string) bool {
	return len(s) > 0 && len(s) < 9 && strings.Count(s, "0")+strings.Count(s, "1") == len(s)
}

// noTracks are texts that are no tracks: empty, too long, or with another letter.
func noTracks() []string {
	texts := []string{
		"", "000000000", "111111111", "0000000001", "100000000", strings.Repeat("01", 8), strings.Repeat("1", 64), strings.Repeat("0", 65), strings.Repeat("1", 1<<8), strings.Repeat("01", 100000),
		"2", "-1", "+1", " ", "0 1", " 01", "01 ", "01\n", "\n", "\x00", "\x00\x01", "1\x00", "0\x001", "o", "O", "l", "I", "0-1", "0b1", "0x1", "a", "oaelf", "/", "01/", ":",
		"٠١", "０１", "\u0130", "\u0131", "1\xff", "\xb0", "\xb1", "\xb0\xb1", "é", "01é", "00000002", "20000000", "00020000", "1111111x", "x1111111",
	}
	for letter := range 256 {
		if letter != '0' && letter != '1' {
			wrong := string([]byte{byte(letter)})
			texts = append(texts, wrong, "01"+wrong, wrong+"10", "11"+wrong+"00", "1101001"+wrong)
		}
	}
	return texts
}

// stepOfTrack sees a train to come ahead of each track and one that has gone
// behind it, so that both ends are like all other circuits.
func stepOfTrack(s string, i int) (string, bool) {
	if !isTrack(s) || i < 0 || i >= len(s) {
		return "", false
	}
	left, right := ("1" + s)[i], (s + "1")[i+1]
	switch {
	case s[i] == '0' && left == '1':
		return s[:i] + "1" + s[i+1:], true
	case s[i] == '1' && right == '1':
		return s[:i] + "0" + s[i+1:], true
	}
	return "", false
}

// stepsOfTrack returns all circuits of a track that can change, and the tracks
// behind these steps.
func stepsOfTrack(s string) ([]int, []string) {
	var circuits []int
	var tracks []string
	for i := range len(s) {
		if next, ok := stepOfTrack(s, i); ok {
			circuits = append(circuits, i)
			tracks = append(tracks, next)
		}
	}
	return circuits, tracks
}

// blocksIn splits a track at its free circuits.
func blocksIn(s string) int {
	return len(strings.Fields(strings.ReplaceAll(s, "0", " ")))
}

func isWalk(list []string) bool {
	for i, s := range list {
		if !isTrack(s) {
			return false
		}
		if i == 0 {
			continue
		}
		if _, next := stepsOfTrack(list[i-1]); !slices.Contains(next, s) {
			return false
		}
	}
	return len(list) > 0
}

// circuitsFreed counts how often a circuit becomes free, and how often occupied.
func circuitsFreed(list []string, i int) (int, int) {
	var states strings.Builder
	for _, s := range list {
		states.WriteByte(s[i])
	}
	return strings.Count(states.String(), "10"), strings.Count(states.String(), "01")
}

// backwards returns a list of tracks, each seen from the other side, in the
// opposite order.
func backwards(list []string) []string {
	result := make([]string, len(list))
	for i, s := range list {
		result[len(list)-1-i] = mirrored(s)
	}
	return result
}

func mirrored(s string) string {
	letters := []byte(s)
	slices.Reverse(letters)
	return string(letters)
}

// trainWalk follows the words of the document on the text of a track.
func trainWalk(n int, long int) []string {
	free := strings.Repeat("0", n)
	walk := []string{free}
	for s := free; len(walk) == 1 || s != free; {
		if strings.Count(s, "1") > long || s[n-1] == '1' {
			s = strings.Replace(s, "1", "0", 1)
		} else {
			front := strings.LastIndex(s, "1") + 1
			s = s[:front] + "1" + s[front+1:]
		}
		walk = append(walk, s)
	}
	return walk
}

// someTrackWalk returns a random walk of some steps from a track on.
func someTrackWalk(random *rand.Rand, s string, steps int) []string {
	walk := []string{s}
	for range steps {
		_, next := stepsOfTrack(s)
		s = next[random.IntN(len(next))]
		walk = append(walk, s)
	}
	return walk
}

// shortWalks returns all walks of at most some steps on tracks of at most n circuits.
func shortWalks(n int, steps int) [][]string {
	var walks [][]string
	for _, s := range allTracks() {
		if len(s) <= n {
			walks = append(walks, []string{s})
		}
	}
	for start, step := 0, 0; step < steps; step++ {
		end := len(walks)
		for _, walk := range walks[start:end] {
			_, next := stepsOfTrack(walk[len(walk)-1])
			for _, s := range next {
				walks = append(walks, append(slices.Clone(walk), s))
			}
		}
		start = end
	}
	return walks
}

// longWalks returns walks of up to 80 steps on tracks of all lengths, those of
// trains, and one of many steps.
func longWalks() [][]string {
	random := rand.New(rand.NewPCG(75, 7))
	var walks [][]string
	for _, s := range allTracks() {
		for range 3 {
			walks = append(walks, someTrackWalk(random, s, random.IntN(80)))
		}
	}
	for n := 1; n <= 8; n++ {
		for long := 1; long <= n; long++ {
			train := trainWalk(n, long)
			walks = append(walks, train, append(slices.Clone(train), train[1:]...), train[:n+1], train[n:])
		}
	}
	return append(walks, someTrackWalk(random, "10110", 3000))
}

func someTrackWalks() [][]string {
	return append(shortWalks(4, 4), longWalks()...)
}

// brokenWalks are lists that are no walks: none of tracks, tracks twice one
// behind the other, two changes at once, changes that can't be, and tracks of
// two lengths.
func brokenWalks() [][]string {
	random := rand.New(rand.NewPCG(76, 7))
	lists := [][]string{
		nil, {}, {""}, {"", ""}, {"0", ""}, {"", "0"}, {"0", "0"}, {"1", "1"}, {"00", "11"}, {"11", "00"}, {"00", "01"}, {"10", "00"},
		{"01", "10"}, {"10", "01"}, {"0", "10"}, {"1", "11"}, {"0", "00"}, {"00", "0"}, {"01", "1"}, {"000", "100", "10"}, {"0", "1", "0", "1", "1"},
		{"000", "1000"}, {"00000000", "100000000"}, {"000000000", "100000000"}, {"00", "1x"}, {"xx"}, {"00", "10", "1 "}, {"100", "101"}, {"101", "001"},
	}
	wrong := noTracks()
	for _, walk := range longWalks() {
		i := random.IntN(len(walk))
		lists = append(lists, slices.Insert(slices.Clone(walk), i, walk[i]))
		for _, s := range []string{wrong[random.IntN(len(wrong))], "", walk[i] + "0", "1" + walk[i], walk[i][1:]} {
			list := slices.Clone(walk)
			list[i] = s
			lists = append(lists, list)
		}
		if i > 0 && i+1 < len(walk) {
			lists = append(lists, slices.Delete(slices.Clone(walk), i, i+1))
		}
		list := slices.Clone(walk)
		list[i] = tracksOf(len(walk[i]))[random.IntN(1<<len(walk[i]))]
		lists = append(lists, list, mirroredEach(walk), reversedTexts(walk))
	}
	return slices.DeleteFunc(lists, isWalk)
}

func mirroredEach(walk []string) []string {
	return reversedTexts(backwards(walk))
}

func reversedTexts(list []string) []string {
	result := slices.Clone(list)
	slices.Reverse(result)
	return result
}

// waysFrom returns the least number of steps from a track to each one: all
// numbers are lessened as long as a step makes one less.
func waysFrom(a string) map[string]int {
	steps := map[string]int{a: 0}
	for changed := true; changed; {
		changed = false
		for _, s := range tracksOf(len(a)) {
			if _, known := steps[s]; !known {
				continue
			}
			_, next := stepsOfTrack(s)
			for _, behind := range next {
				if old, known := steps[behind]; !known || steps[s]+1 < old {
					steps[behind] = steps[s] + 1
					changed = true
				}
			}
		}
	}
	return steps
}

// isCounts takes each number by itself.
func isCounts(counts []int) bool {
	for _, axles := range counts {
		if axles < 0 || axles > 50 {
			return false
		}
	}
	return len(counts) > 0 && len(counts) < 9
}

// someCounts returns counts of 1 to 8 sections, many with no axles or as many
// as there can be.
func someCounts() [][]int {
	random := rand.New(rand.NewPCG(81, 7))
	values := []int{0, 1, 2, 25, 49, 50}
	lists := [][]int{}
	for _, a := range values {
		lists = append(lists, []int{a})
		for _, b := range values {
			lists = append(lists, []int{a, b})
			for _, c := range values {
				lists = append(lists, []int{a, b, c})
			}
		}
	}
	for n := 1; n <= 8; n++ {
		for _, axles := range values {
			lists = append(lists, slices.Repeat([]int{axles}, n))
		}
		for range 30 {
			list := make([]int, n)
			for k := range list {
				list[k] = random.IntN(51)
				if random.IntN(2) == 0 {
					list[k] = values[random.IntN(len(values))]
				}
			}
			lists = append(lists, list)
		}
	}
	return lists
}

// noCounts are lists that are no counts: with no sections or too many, or with
// a number just out of its range, or such that its low bits alone look right.
func noCounts() [][]int {
	lists := [][]int{nil, {}, make([]int, 9), make([]int, 10), repeat(50, 9), repeat(1, 16), make([]int, 256), make([]int, 257), make([]int, 100000)}
	for _, axles := range []int{-1, 51, -2, 52, -50, 100, 256, 257, 306, 1 << 32, 1<<32 + 1, -1 << 32, math.MinInt, math.MinInt + 1, math.MaxInt, math.MaxInt - 1} {
		for n := 1; n <= 8; n++ {
			for k := range n {
				list := repeat(n, n)
				list[k] = axles
				lists = append(lists, list)
			}
		}
	}
	return lists
}

// pulsesOf returns all pulses of n sections: to the right and to the left at
// each counter.
func pulsesOf(n int) []int {
	var pulses []int
	for counter := range n + 1 {
		pulses = append(pulses, counter, -1-counter)
	}
	return pulses
}

// noPulses returns numbers that are no pulses of n sections.
func noPulses(n int) []int {
	return []int{n + 1, -n - 2, n + 2, -n - 3, n + 9, -n - 10, 100, -100, 256, 1 << 32, 1<<32 + 1, -1 << 32, math.MinInt, math.MinInt + 1, math.MaxInt, math.MaxInt - 1}
}

// behindPulse moves an axle between counts that have a place without a limit
// at both ends, so that all counters stand between two of them.
func behindPulse(counts []int, pulse int) ([]int, bool) {
	if !isCounts(counts) || !slices.Contains(pulsesOf(len(counts)), pulse) {
		return nil, false
	}
	places := append(append([]int{1000}, counts...), 1000)
	if pulse < 0 {
		counter := -(pulse + 1)
		places[counter]++
		places[counter+1]--
	} else {
		places[pulse]--
		places[pulse+1]++
	}
	result := places[1 : len(places)-1]
	if !isCounts(result) {
		return nil, false
	}
	return result, true
}

// behindPulses does one pulse after the other.
func behindPulses(counts []int, pulses []int) ([]int, bool) {
	ok := isCounts(counts)
	for _, pulse := range pulses {
		if counts, ok = behindPulse(counts, pulse); !ok {
			return nil, false
		}
	}
	return counts, ok
}

// somePulses returns random pulses that can be done from counts on, and their end.
func somePulses(random *rand.Rand, counts []int, n int) ([]int, []int) {
	var pulses []int
	all := pulsesOf(len(counts))
	for len(pulses) < n {
		pulse := all[random.IntN(len(all))]
		if next, ok := behindPulse(counts, pulse); ok {
			pulses = append(pulses, pulse)
			counts = next
		}
	}
	return pulses, counts
}

// netOf counts the pulses of each counter in both directions.
func netOf(n int, pulses []int) []int {
	net := []int{}
	for counter := range n + 1 {
		right, left := 0, 0
		for _, pulse := range pulses {
			switch pulse {
			case counter:
				right++
			case -1 - counter:
				left++
			}
		}
		net = append(net, right-left)
	}
	return net
}

// checkListsApart writes into a list up to its capacity, and looks whether this
// changes another one.
func checkListsApart(t *testing.T, result []int, others ...[]int) {
	t.Helper()
	for _, other := range others {
		checkApart(t, []impl.Path{{In: result}}, []impl.Path{{In: other[:cap(other)]}})
	}
}
