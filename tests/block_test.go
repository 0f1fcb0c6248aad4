package tests

import (
	"math"
	"slices"
	"strings"
	"testing"

	"loop.example/blockboxes/impl"
)

// letters are those of all events.
var letters = []string{"a", "c", "e", "f", "l", "o", "r"}

func TestBlockPossible(t *testing.T) {
	reached := reachedBlocks()
	if len(reached) != len(possibleBlocks) {
		t.Fatalf("some events lead to the blocks %v", reached)
	}
	for _, b := range allBlocks() {
		byFields := b.Needle >= 0 && b.Needle <= 2 && (!b.Inside || b.Needle == 2) && (!b.Offered || b.Needle == 0)
		if impl.BlockPossible(b) != byFields || slices.Contains(reached, b) != byFields {
			t.Errorf("BlockPossible(%v) = %v", b, impl.BlockPossible(b))
		}
	}
}

func TestPromise26(t *testing.T) {
	steps := 0
	for _, b := range possibleBlocks {
		for _, letter := range append(noEvents(), letters...) {
			got, ok := impl.BlockStep(b, letter)
			want, can := impl.Block{}, false
			if len(letter) == 1 {
				want, can = eventOf(b, letter[0])
			}
			if got != want || ok != can {
				t.Errorf("BlockStep(%v, %q) = %v, %v", b, letter, got, ok)
			}
			if !ok {
				continue
			}
			steps++
			if !impl.BlockPossible(got) || got == b || !strings.Contains(impl.BlockNext(b), letter) {
				t.Errorf("BlockStep(%v, %q) = %v, with the events %q", b, letter, got, impl.BlockNext(b))
			}
			if end, ok := impl.BlockRun(b, letter); !ok || end != got {
				t.Errorf("BlockRun(%v, %q) = %v, %v", b, letter, end, ok)
			}
		}
	}
	if steps != 7 {
		t.Errorf("%d events can be done", steps)
	}
}

func TestBlockStepKnown(t *testing.T) {
	known := map[string][2]impl.Block{
		"o": {normalBlock, offeredBlock},
		"r": {offeredBlock, normalBlock},
		"a": {offeredBlock, clearBlock},
		"c": {clearBlock, normalBlock},
		"e": {clearBlock, insideBlock},
		"l": {insideBlock, leftBlock},
		"f": {leftBlock, normalBlock},
	}
	for letter, step := range known {
		for _, b := range possibleBlocks {
			got, ok := impl.BlockStep(b, letter)
			if ok != (b == step[0]) || ok && got != step[1] || !ok && got != (impl.Block{}) {
				t.Errorf("BlockStep(%v, %q) = %v, %v", b, letter, got, ok)
			}
		}
	}
}

func TestBlockInvalid(t *testing.T) {
	for _, b := range noBlocks() {
		for _, letter := range append(noEvents(), letters...) {
			if got, ok := impl.BlockStep(b, letter); ok || got != (impl.Block{}) {
				t.Errorf("BlockStep(%v, %q) = %v, %v", b, letter, got, ok)
			}
		}
		if impl.BlockNext(b) != "" {
			t.Errorf("BlockNext(%v) = %q", b, impl.BlockNext(b))
		}
		for _, text := range append(anyTexts(2), "oaelf", "elf", "lfoa", strings.Repeat("o", 31)) {
			if end, ok := impl.BlockRun(b, text); ok || end != (impl.Block{}) {
				t.Errorf("BlockRun(%v, %q) = %v, %v", b, text, end, ok)
			}
		}
		for _, n := range []int{0, 1, 2, 30, 31, -1, math.MinInt, math.MaxInt} {
			if many := impl.BlockMany(b, n); many != -1 {
				t.Errorf("BlockMany(%v, %d) = %d", b, n, many)
			}
		}
		for _, other := range append([]impl.Block{b}, allBlocks()...) {
			for _, pair := range [][2]impl.Block{{b, other}, {other, b}} {
				if text, ok := impl.BlockWay(pair[0], pair[1]); ok || text != "" {
					t.Errorf("BlockWay(%v, %v) = %q, %v", pair[0], pair[1], text, ok)
				}
			}
		}
	}
}

func TestPromise27(t *testing.T) {
	for _, b := range possibleBlocks {
		next := impl.BlockNext(b)
		if next != nextOf(b) || next == "" || len(next) > 2 || len(next) == 2 && next[0] >= next[1] {
			t.Errorf("BlockNext(%v) = %q", b, next)
		}
		for _, letter := range letters {
			if _, ok := impl.BlockStep(b, letter); ok != strings.Contains(next, letter) {
				t.Errorf("BlockNext(%v) = %q, but BlockStep of %q tells %v", b, next, letter, ok)
			}
		}
		if many := impl.BlockMany(b, 1); many != len(next) {
			t.Errorf("BlockMany(%v, 1) = %d, but BlockNext is %q", b, many, next)
		}
	}
}

func TestBlockNextKnown(t *testing.T) {
	for i, want := range []string{"o", "ar", "ce", "l", "f"} {
		if got := impl.BlockNext(possibleBlocks[i]); got != want {
			t.Errorf("BlockNext(%v) = %q", possibleBlocks[i], got)
		}
	}
}

func TestPromise28(t *testing.T) {
	for _, b := range possibleBlocks {
		for _, text := range anyTexts(5) {
			checkRun(t, b, text)
		}
		for _, text := range longTexts() {
			way, _ := impl.BlockWay(b, impl.Block{})
			if len(way)+len(text) <= 30 {
				text = way + text
			}
			checkRun(t, b, text)
		}
		for n := range 13 {
			for _, text := range textsFrom(b, n) {
				checkRun(t, b, text)
			}
		}
	}
}

func checkRun(t *testing.T, b impl.Block, text string) {
	t.Helper()
	end, ok := impl.BlockRun(b, text)
	if want, can := runOf(b, text); ok != can || end != want {
		t.Fatalf("BlockRun(%v, %q) = %v, %v", b, text, end, ok)
	}
	if !ok {
		return
	}
	for i := range len(text) + 1 {
		middle, first := impl.BlockRun(b, text[:i])
		last, rest := impl.BlockRun(middle, text[i:])
		if !first || !rest || last != end {
			t.Fatalf("BlockRun of %q and %q from %v on ends with %v, %v", text[:i], text[i:], b, last, rest)
		}
	}
	if way, ok := impl.BlockWay(b, end); !ok || len(way) > len(text) {
		t.Fatalf("BlockWay(%v, %v) = %q, %v, but %q leads there", b, end, way, ok, text)
	}
}

func TestBlockRunLimits(t *testing.T) {
	for i, b := range possibleBlocks {
		// Each cycle leads back to the block.
		cycle := "oaelf"[i:] + "oaelf"[:i]
		text := strings.Repeat(cycle, 6)
		if end, ok := impl.BlockRun(b, text); !ok || end != b {
			t.Errorf("BlockRun of 30 events from %v on = %v, %v", b, end, ok)
		}
		for _, longer := range []string{text + cycle[:1], text + cycle, text + "x", text + "\x00", strings.Repeat(cycle, 50000)} {
			if end, ok := impl.BlockRun(b, longer); ok || end != (impl.Block{}) {
				t.Errorf("BlockRun of %d events from %v on = %v, %v", len(longer), b, end, ok)
			}
		}
		if end, ok := impl.BlockRun(b, ""); !ok || end != b {
			t.Errorf("BlockRun of no events from %v on = %v, %v", b, end, ok)
		}
	}
}

func TestPromise29(t *testing.T) {
	for _, text := range append(legalTexts(14), longTexts()...) {
		if !impl.BlockLegal(text) {
			t.Fatalf("%q is not legal", text)
		}
		enters, leaves := strings.Count(text, "e"), strings.Count(text, "l")
		if enters != leaves && enters != leaves+1 || strings.Count(text, "a") > strings.Count(text, "o") {
			t.Fatalf("%q is legal", text)
		}
		parts := strings.Split(text, "e")
		for _, part := range parts[1:max(len(parts)-1, 1)] {
			_, behind, left := strings.Cut(part, "l")
			_, behind, freed := strings.Cut(behind, "f")
			if !left || !freed || !strings.Contains(behind, "a") {
				t.Fatalf("%q is legal, with %q between two trains", text, part)
			}
		}
	}
	for _, text := range anyTexts(6) {
		if impl.BlockLegal(text) != isLegal(text) {
			t.Fatalf("BlockLegal(%q) = %v", text, !isLegal(text))
		}
	}
}

func TestBlockLegalLimits(t *testing.T) {
	for _, text := range []string{"", "o", "or", "oroacoaelf", "oaelfoael", strings.Repeat("oaelf", 6), strings.Repeat("or", 15)} {
		if !impl.BlockLegal(text) {
			t.Errorf("%q is not legal", text)
		}
	}
	for _, text := range wrongTexts() {
		if impl.BlockLegal(text) {
			t.Errorf("%.40q of %d letters is legal", text, len(text))
		}
	}
}

func TestPromise30(t *testing.T) {
	for _, b := range possibleBlocks {
		for n := 1; n <= 30; n++ {
			sum := 0
			for i := range len(nextOf(b)) {
				next, _ := eventOf(b, nextOf(b)[i])
				sum += impl.BlockMany(next, n-1)
			}
			if many := impl.BlockMany(b, n); many != sum || many < 1 {
				t.Errorf("BlockMany(%v, %d) = %d, not %d", b, n, many, sum)
			}
		}
		for n := range 21 {
			if many := impl.BlockMany(b, n); many != len(textsFrom(b, n)) {
				t.Errorf("BlockMany(%v, %d) = %d", b, n, many)
			}
		}
	}
}

func TestBlockManyLimits(t *testing.T) {
	known := []int{1, 1, 2, 3, 4, 6, 8, 12}
	for n, want := range known {
		if many := impl.BlockMany(impl.Block{}, n); many != want {
			t.Errorf("BlockMany of the normal block and %d = %d", n, many)
		}
	}
	for _, b := range possibleBlocks {
		if impl.BlockMany(b, 0) != 1 || impl.BlockMany(b, 30) < 1000 {
			t.Errorf("BlockMany(%v) of 0 and 30 events = %d, %d", b, impl.BlockMany(b, 0), impl.BlockMany(b, 30))
		}
		for _, n := range []int{-1, -2, 31, 32, 1000, math.MinInt, math.MaxInt, 1 << 32, 1<<32 + 3, 256, -1 << 32} {
			if many := impl.BlockMany(b, n); many != -1 {
				t.Errorf("BlockMany(%v, %d) = %d", b, n, many)
			}
		}
	}
}

// wayOf tries all texts, the shortest ones first, byte by byte.
func wayOf(a impl.Block, b impl.Block) string {
	for n := 0; ; n++ {
		for _, text := range textsFrom(a, n) {
			if end, _ := runOf(a, text); end == b {
				return text
			}
		}
	}
}

func TestPromise31(t *testing.T) {
	for _, a := range possibleBlocks {
		for _, b := range possibleBlocks {
			way, ok := impl.BlockWay(a, b)
			if !ok || way != wayOf(a, b) || (way == "") != (a == b) {
				t.Errorf("BlockWay(%v, %v) = %q, %v", a, b, way, ok)
			}
			if end, ok := impl.BlockRun(a, way); !ok || end != b {
				t.Errorf("BlockRun(%v, %q) = %v, %v", a, way, end, ok)
			}
			if way == "" {
				continue
			}
			next, _ := impl.BlockStep(a, way[:1])
			if rest, ok := impl.BlockWay(next, b); !ok || len(rest) != len(way)-1 {
				t.Errorf("BlockWay(%v, %v) = %q, %v, but %q from %v on", next, b, rest, ok, way, a)
			}
		}
	}
}

func TestBlockWayKnown(t *testing.T) {
	known := [][]string{
		{"", "o", "oa", "oae", "oael"},
		{"r", "", "a", "ae", "ael"},
		{"c", "co", "", "e", "el"},
		{"lf", "lfo", "lfoa", "", "l"},
		{"f", "fo", "foa", "foae", ""},
	}
	for i, a := range possibleBlocks {
		for j, b := range possibleBlocks {
			if way, ok := impl.BlockWay(a, b); !ok || way != known[i][j] {
				t.Errorf("BlockWay(%v, %v) = %q, %v", a, b, way, ok)
			}
		}
	}
}
