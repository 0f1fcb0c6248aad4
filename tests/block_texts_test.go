package tests

import (
	"math"
	"slices"
	"strings"
	"testing"

	"loop.example/blockboxes/impl"
)

func TestPromise32(t *testing.T) {
	cycle, _ := impl.BlockCycle(1)
	for _, text := range append(legalTexts(14), longTexts()...) {
		trains := impl.BlockTrains(text)
		if trains != leftBy(text) || 4*trains > len(text) {
			t.Fatalf("BlockTrains(%q) = %d", text, trains)
		}
		if len(text)+len(cycle) > 30 {
			continue
		}
		if more := impl.BlockTrains(cycle + text); more != trains+1 {
			t.Fatalf("BlockTrains(%q) = %d, but it is %d for %q", cycle+text, more, trains, text)
		}
	}
}

// leftBy counts the blocks that a train has just left.
func leftBy(text string) int {
	trains := 0
	for i := range len(text) {
		ahead, _ := runOf(impl.Block{}, text[:i])
		behind, _ := runOf(impl.Block{}, text[:i+1])
		if ahead.Inside && !behind.Inside {
			trains++
		}
	}
	return trains
}

func TestBlockTrainsLimits(t *testing.T) {
	known := map[string]int{"": 0, "o": 0, "oae": 0, "oael": 1, "oaelf": 1, "oaelfoae": 1, "oaelfoael": 2, strings.Repeat("oaelf", 6): 6, strings.Repeat("or", 15): 0}
	for text, want := range known {
		if trains := impl.BlockTrains(text); trains != want {
			t.Errorf("BlockTrains(%q) = %d", text, trains)
		}
	}
	for _, text := range append(wrongTexts(), "oaell", "l", strings.Repeat("oaelf", 6)+"oael") {
		if trains := impl.BlockTrains(text); trains != -1 {
			t.Errorf("BlockTrains of %.40q = %d", text, trains)
		}
	}
}

func TestPromise33(t *testing.T) {
	for _, text := range append(legalTexts(14), longTexts()...) {
		normal, ok := impl.BlockNormal(text)
		end, _ := runOf(impl.Block{}, text)
		if !ok || normal != (end == impl.Block{}) {
			t.Fatalf("BlockNormal(%q) = %v, %v", text, normal, ok)
		}
		if normal && strings.Count(text, "e") != strings.Count(text, "f") {
			t.Fatalf("BlockNormal(%q) = %v, %v", text, normal, ok)
		}
		if !normal || 2*len(text) > 30 {
			continue
		}
		if again, ok := impl.BlockNormal(text + text); !ok || !again {
			t.Fatalf("BlockNormal(%q) = %v, %v", text+text, again, ok)
		}
	}
}

func TestBlockNormalLimits(t *testing.T) {
	known := map[string]bool{"": true, "o": false, "or": true, "oa": false, "oac": true, "oae": false, "oael": false, "oaelf": true,
		strings.Repeat("or", 15): true, strings.Repeat("oaelf", 5) + "oroac": true, strings.Repeat("oaelf", 5) + "oacoa": false}
	for text, want := range known {
		if normal, ok := impl.BlockNormal(text); !ok || normal != want {
			t.Errorf("BlockNormal(%q) = %v, %v", text, normal, ok)
		}
	}
	for _, text := range append(wrongTexts(), strings.Repeat("or", 16)) {
		if normal, ok := impl.BlockNormal(text); ok || normal {
			t.Errorf("BlockNormal of %.40q = %v, %v", text, normal, ok)
		}
	}
}

func TestPromise34(t *testing.T) {
	for n := range 7 {
		text, ok := impl.BlockCycle(n)
		if want := []string{"", "oaelf", "oaelfoaelf", "oaelfoaelfoaelf"}; n < 4 && text != want[n] {
			t.Errorf("BlockCycle(%d) = %q", n, text)
		}
		if !ok || !impl.BlockLegal(text) || !isLegal(text) || len(text) != 5*n || impl.BlockTrains(text) != n {
			t.Errorf("BlockCycle(%d) = %q, %v, with %d trains", n, text, ok, impl.BlockTrains(text))
		}
		if normal, ok := impl.BlockNormal(text); !ok || !normal {
			t.Errorf("BlockNormal(%q) = %v, %v", text, normal, ok)
		}
		if rest := strings.ReplaceAll(text, "oaelf", ""); rest != "" {
			t.Errorf("BlockCycle(%d) = %q", n, text)
		}
	}
}

func TestBlockCycleInvalid(t *testing.T) {
	// Five times each of the last three numbers wraps around to a small one.
	for _, n := range []int{-1, -2, -6, 7, 8, 30, 31, 1000, math.MinInt, math.MaxInt, 1 << 32, 1<<32 + 1, -1 << 32, 3689348814741910324, 3689348814741910325, 7378697629483820647} {
		if text, ok := impl.BlockCycle(n); ok || text != "" {
			t.Errorf("BlockCycle(%d) = %q, %v", n, text, ok)
		}
	}
}

// repairOf puts each byte at each place, and keeps what is legal and new.
func repairOf(text string) []string {
	var texts []string
	if len(text) >= 30 {
		return texts
	}
	for place := range len(text) + 1 {
		for letter := range 256 {
			longer := text[:place] + string([]byte{byte(letter)}) + text[place:]
			if isLegal(longer) && !slices.Contains(texts, longer) {
				texts = append(texts, longer)
			}
		}
	}
	return texts
}

// isWithout reports whether a text comes of a longer one without one byte.
func isWithout(text string, longer string) bool {
	for i := range len(longer) {
		if longer[:i]+longer[i+1:] == text {
			return true
		}
	}
	return false
}

// brokenTexts returns texts that lack one event of a legal one, each once.
func brokenTexts() []string {
	var broken []string
	for _, text := range append(legalTexts(9), longTexts()...) {
		for i := range len(text) {
			broken = append(broken, text[:i]+text[i+1:])
		}
	}
	slices.Sort(broken)
	return slices.Compact(broken)
}

func TestPromise35(t *testing.T) {
	for _, text := range append(append(anyTexts(4), brokenTexts()...), longTexts()...) {
		texts := impl.BlockRepair(text)
		if !slices.Equal(texts, repairOf(text)) {
			t.Fatalf("BlockRepair(%q) = %q, not %q", text, texts, repairOf(text))
		}
		for i, longer := range texts {
			if !impl.BlockLegal(longer) || len(longer) != len(text)+1 || !isWithout(text, longer) || slices.Contains(texts[:i], longer) {
				t.Fatalf("BlockRepair(%q) = %q", text, texts)
			}
		}
	}
}

// TestBlockRepairAll finds the repaired texts among all legal ones.
func TestBlockRepairAll(t *testing.T) {
	legal := legalTexts(8)
	for _, text := range append(anyTexts(4), legalTexts(7)...) {
		count := 0
		for _, longer := range legal {
			if len(longer) == len(text)+1 && isWithout(text, longer) {
				count++
				if !slices.Contains(impl.BlockRepair(text), longer) {
					t.Fatalf("BlockRepair(%q) = %q, without %q", text, impl.BlockRepair(text), longer)
				}
			}
		}
		if texts := impl.BlockRepair(text); len(texts) != count {
			t.Fatalf("BlockRepair(%q) = %q", text, texts)
		}
	}
}

func TestBlockRepairLimits(t *testing.T) {
	known := map[string][]string{
		"":      {"o"},
		"o":     {"oa", "or"},
		"oelf":  {"oaelf"},
		"oaef":  {"oaelf"},
		"aelf":  {"oaelf"},
		"oac":   {"oaco"},
		"oaelf": {"oaelfo"},
		"oo":    {"oro"},
		"oao":   {"oaco"},
		"c":     {}, "f": {}, "x": {}, "ox": {}, "ooo": {}, "oaelfx": {},
		"\xff": {}, "\x00": {},
	}
	for text, want := range known {
		if texts := impl.BlockRepair(text); !slices.Equal(texts, want) {
			t.Errorf("BlockRepair(%q) = %q", text, texts)
		}
	}
	full := strings.Repeat("oaelf", 6)
	for i := range len(full) {
		if texts := impl.BlockRepair(full[:i] + full[i+1:]); !slices.Contains(texts, full) {
			t.Errorf("BlockRepair of 29 events without that at %d = %q", i, texts)
		}
	}
	for _, text := range []string{full, full[1:] + "o", full[:29] + "x", full + "o", full[1:] + "oa", full + "oelf", strings.Repeat("o", 1<<20), strings.Repeat("oaelf", 1<<18)} {
		if texts := impl.BlockRepair(text); len(texts) != 0 {
			t.Errorf("BlockRepair of %d letters has %d texts", len(text), len(texts))
		}
	}
}

// dropOf tells for each index whether the rest is legal.
func dropOf(text string) []int {
	var indexes []int
	for i := range len(text) {
		if len(text) <= 30 && isLegal(text[:i]+text[i+1:]) {
			indexes = append(indexes, i)
		}
	}
	return indexes
}

// textsWithMore returns legal texts with one byte more, whatever it is.
func textsWithMore() []string {
	var texts []string
	for _, text := range append(legalTexts(7), longTexts()...) {
		for place := range len(text) + 1 {
			for _, more := range []string{"a", "c", "e", "f", "l", "o", "r", "x", "O", "\x00", "\xff", " "} {
				texts = append(texts, text[:place]+more+text[place:])
			}
		}
	}
	return texts
}

func TestPromise36(t *testing.T) {
	for _, text := range append(append(anyTexts(5), legalTexts(12)...), textsWithMore()...) {
		indexes := impl.BlockDrop(text)
		if !slices.Equal(indexes, dropOf(text)) || !slices.IsSorted(indexes) {
			t.Fatalf("BlockDrop(%q) = %v, not %v", text, indexes, dropOf(text))
		}
		for _, i := range indexes {
			rest := text[:i] + text[i+1:]
			if !impl.BlockLegal(rest) {
				t.Fatalf("BlockDrop(%q) = %v, but %q is not legal", text, indexes, rest)
			}
			if isLegal(text) && !slices.Contains(impl.BlockRepair(rest), text) {
				t.Fatalf("BlockRepair(%q) = %q, without %q", rest, impl.BlockRepair(rest), text)
			}
		}
	}
}

func TestBlockDropLimits(t *testing.T) {
	known := map[string][]int{
		"": {}, "o": {0}, "c": {0}, "x": {0}, "\xff": {0}, "é": {}, "oo": {0, 1}, "or": {1}, "ro": {0}, "xx": {}, "ox": {1}, "xo": {0},
		"oaelf": {4}, "ooaelf": {0, 1}, "oaaelf": {1, 2}, "oaxelf": {2}, "oa\x00elf": {2}, "oaxxelf": {}, "oraelf": {1}, "oaélf": {},
	}
	for text, want := range known {
		if indexes := impl.BlockDrop(text); !slices.Equal(indexes, want) {
			t.Errorf("BlockDrop(%q) = %v", text, indexes)
		}
	}
	full := strings.Repeat("oaelf", 6)
	if indexes := impl.BlockDrop(full); !slices.Equal(indexes, []int{29}) {
		t.Errorf("BlockDrop of 30 events = %v", indexes)
	}
	if indexes := impl.BlockDrop(full[:10] + "x" + full[10:29]); !slices.Equal(indexes, []int{10}) {
		t.Errorf("BlockDrop of 30 letters = %v", indexes)
	}
	for _, text := range []string{full + "o", full + "x", full[:10] + "x" + full[10:], "o" + full, full + "oa", strings.Repeat("x", 1<<20), strings.Repeat("oaelf", 1<<18)} {
		if indexes := impl.BlockDrop(text); len(indexes) != 0 {
			t.Errorf("BlockDrop of %d letters = %v", len(text), indexes)
		}
	}
}
