package tests

import (
	"math"
	"slices"
	"strings"
	"testing"

	"loop.example/blockboxes/impl"
)

func TestConstantsOfRegisters(t *testing.T) {
	if impl.OffsetMax != 30 || impl.SlackMax != 5 {
		t.Errorf("OffsetMax is %d, SlackMax %d", impl.OffsetMax, impl.SlackMax)
	}
}

// TestRegisterValid goes through all lists of at most three notes with minutes
// in and just out of their range.
func TestRegisterValid(t *testing.T) {
	lists := [][]impl.Note{{}}
	for start := 0; start < len(lists); start++ {
		list := lists[start]
		given := slices.Clone(list)
		if impl.RegisterValid(given) != isRegister(list) || impl.RegisterSound(given) != isSound(list) {
			t.Fatalf("RegisterValid(%v) = %v, and RegisterSound = %v", list, impl.RegisterValid(given), impl.RegisterSound(given))
		}
		if text := impl.RegisterText(given); isRegister(list) && text != lettersOf(list) || !isRegister(list) && text != "" {
			t.Fatalf("RegisterText(%v) = %q", list, text)
		}
		if !slices.Equal(given, list) {
			t.Fatalf("%v is changed to %v", list, given)
		}
		if len(list) == 3 {
			continue
		}
		for _, minute := range []int{-1, 0, 1, 1999, 2000, 2001} {
			for _, letter := range []string{"o", "a", "x"} {
				lists = append(lists, append(slices.Clone(list), impl.Note{Minute: minute, Letter: letter}))
			}
		}
	}
}

func TestRegisterValidLimits(t *testing.T) {
	full := strings.Repeat("oaelf", 6)
	valid := [][]impl.Note{nil, {}, oneMinute(full, 0), oneMinute(full, 2000), oneMinute("rrr", 9), notesOf("oa", 0, 2000), notesOf("oaelf", 4, 4, 5, 5, 5)}
	for _, letter := range letters {
		valid = append(valid, []impl.Note{{Minute: 0, Letter: letter}}, []impl.Note{{Minute: 2000, Letter: letter}})
	}
	for _, list := range valid {
		if !impl.RegisterValid(list) || impl.RegisterText(list) != lettersOf(list) {
			t.Errorf("%v is no register, or has the text %q", list, impl.RegisterText(list))
		}
	}
	for _, list := range noRegisters() {
		if impl.RegisterValid(list) || impl.RegisterText(list) != "" || impl.RegisterSound(list) {
			t.Errorf("%s is a register with the text %q", short(list), impl.RegisterText(list))
		}
	}
}

func TestPromise49(t *testing.T) {
	sound := 0
	for _, list := range someRegisters() {
		if !impl.RegisterValid(list) || impl.RegisterText(list) != lettersOf(list) || impl.RegisterSound(list) != isSound(list) {
			t.Fatalf("RegisterSound(%v) = %v, with the text %q", list, impl.RegisterSound(list), impl.RegisterText(list))
		}
		if !impl.RegisterSound(list) {
			continue
		}
		sound++
		text := impl.RegisterText(list)
		if !impl.BlockLegal(text) {
			t.Fatalf("%v is sound, but %q is not legal", list, text)
		}
		for _, minute := range minutesAround(list) {
			if until, ok := impl.RegisterUntil(list, minute); !ok || !impl.RegisterSound(until) {
				t.Fatalf("%v is sound, but %v up to %d is not", list, until, minute)
			}
		}
		b, ok := impl.RegisterBlock(list, 2000)
		if want, can := impl.BlockRun(impl.Block{}, text); !ok || !can || b != want {
			t.Fatalf("RegisterBlock(%v) at the end = %v, %v", list, b, ok)
		}
	}
	if sound < 500 {
		t.Errorf("only %d registers are sound", sound)
	}
}

func TestPromise53(t *testing.T) {
	for _, list := range someRegisters() {
		given := slices.Clone(list)
		for _, minute := range minutesAround(list) {
			b, ok := impl.RegisterBlock(given, minute)
			want, text := impl.Block{}, ""
			if isSound(list) {
				text = lettersOf(list)[:countUntil(list, minute)]
				want, _ = runOf(impl.Block{}, text)
			}
			if ok != isSound(list) || b != want || !slices.Equal(given, list) {
				t.Fatalf("RegisterBlock(%v, %d) = %v, %v", list, minute, b, ok)
			}
			if !ok {
				continue
			}
			until, _ := impl.RegisterUntil(list, minute)
			end, fine := impl.RegisterBlock(until, math.MaxInt)
			if !impl.BlockPossible(b) || !fine || end != b {
				t.Fatalf("RegisterBlock(%v, %d) = %v, but it is %v at the end of %v", list, minute, b, end, until)
			}
			if trains := impl.RegisterTrains(until); len(trains) != impl.BlockTrains(text) || impl.RegisterText(until) != text {
				t.Fatalf("RegisterTrains(%v) = %v", until, trains)
			}
		}
	}
}

func TestRegisterBlockKnown(t *testing.T) {
	list := notesOf("oaelfo", 3, 3, 5, 9, 9, 9)
	known := map[int]impl.Block{
		math.MinInt: normalBlock, -1: normalBlock, 0: normalBlock, 2: normalBlock,
		3: clearBlock, 4: clearBlock, 5: insideBlock, 8: insideBlock,
		9: offeredBlock, 10: offeredBlock, 2000: offeredBlock, 2001: offeredBlock, math.MaxInt: offeredBlock,
	}
	for minute, want := range known {
		if b, ok := impl.RegisterBlock(list, minute); !ok || b != want {
			t.Errorf("RegisterBlock(%v, %d) = %v, %v", list, minute, b, ok)
		}
		if b, ok := impl.RegisterBlock(nil, minute); !ok || b != normalBlock {
			t.Errorf("RegisterBlock of no notes at %d = %v, %v", minute, b, ok)
		}
	}
	// Of an unsound register, the sound beginning alone does not count.
	for _, list := range append(noRegisters(), notesOf("oae", 1, 2, 3)[1:], notesOf("oaee", 1, 2, 3, 4), notesOf("oo", 5, 5)) {
		for _, minute := range []int{math.MinInt, -1, 0, 1, 3, 2000, math.MaxInt} {
			if b, ok := impl.RegisterBlock(list, minute); ok || b != normalBlock {
				t.Errorf("RegisterBlock(%s, %d) = %v, %v", short(list), minute, b, ok)
			}
		}
	}
}

func TestPromise54(t *testing.T) {
	for _, list := range someRegisters() {
		given := slices.Clone(list)
		for _, minute := range minutesAround(list) {
			until, ok := impl.RegisterUntil(given, minute)
			many := countUntil(list, minute)
			if !ok || !slices.Equal(until, list[:many]) || !slices.Equal(given, list) {
				t.Fatalf("RegisterUntil(%v, %d) = %v, %v", list, minute, until, ok)
			}
			if again, ok := impl.RegisterUntil(until, minute); !ok || !slices.Equal(again, until) {
				t.Fatalf("RegisterUntil(%v, %d) = %v, %v", until, minute, again, ok)
			}
			if whole, ok := impl.RegisterJoin(until, list[many:]); !ok || !slices.Equal(whole, list) {
				t.Fatalf("RegisterJoin(%v, %v) = %v, %v", until, list[many:], whole, ok)
			}
			checkNotesApart(t, until, given)
		}
	}
}

func TestRegisterUntilKnown(t *testing.T) {
	list := notesOf("ooxoo", 0, 7, 7, 7, 2000)
	list[2].Letter = "f"
	known := map[int]int{math.MinInt: 0, -1: 0, 0: 1, 1: 1, 6: 1, 7: 4, 8: 4, 1999: 4, 2000: 5, 2001: 5, math.MaxInt: 5}
	for minute, many := range known {
		if until, ok := impl.RegisterUntil(list, minute); !ok || !slices.Equal(until, list[:many]) {
			t.Errorf("RegisterUntil(%v, %d) = %v, %v", list, minute, until, ok)
		}
		if until, ok := impl.RegisterUntil(nil, minute); !ok || len(until) != 0 {
			t.Errorf("RegisterUntil of no notes = %v, %v", until, ok)
		}
		for _, wrong := range noRegisters() {
			if until, ok := impl.RegisterUntil(wrong, minute); ok || len(until) != 0 {
				t.Fatalf("RegisterUntil(%s, %d) = %s, %v", short(wrong), minute, short(until), ok)
			}
		}
	}
}

// trainsOf returns the minutes in which trains are in the section, one by one.
func trainsOf(list []impl.Note) []int {
	var minutes []int
	entered := -1
	for _, note := range list {
		switch note.Letter {
		case "e":
			entered = note.Minute
		case "l":
			minutes = append(minutes, note.Minute-entered)
		}
	}
	return minutes
}

func TestPromise55(t *testing.T) {
	for _, list := range someRegisters() {
		given := slices.Clone(list)
		trains := impl.RegisterTrains(given)
		if !isSound(list) {
			if len(trains) != 0 {
				t.Fatalf("RegisterTrains(%v) = %v", list, trains)
			}
			continue
		}
		if !slices.Equal(trains, trainsOf(list)) || !slices.Equal(given, list) {
			t.Fatalf("RegisterTrains(%v) = %v", list, trains)
		}
		if len(trains) > 0 && (slices.Min(trains) < 0 || sum(trains) > list[len(list)-1].Minute-list[0].Minute) {
			t.Fatalf("RegisterTrains(%v) = %v", list, trains)
		}
		for many := range list {
			ahead := impl.RegisterTrains(list[:many])
			if len(ahead) > len(trains) || !slices.Equal(ahead, trains[:len(ahead)]) {
				t.Fatalf("RegisterTrains(%v) = %v, but %v of %v", list[:many], ahead, trains, list)
			}
		}
	}
}

func TestRegisterTrainsKnown(t *testing.T) {
	known := []struct {
		list []impl.Note
		want []int
	}{
		{nil, nil},
		{notesOf("oa", 1, 2), nil},
		{notesOf("oae", 1, 2, 3), nil},
		{notesOf("oael", 1, 2, 3, 3), []int{0}},
		{notesOf("oael", 0, 0, 0, 2000), []int{2000}},
		{notesOf("oaelfororoacoaelfoae", 1, 2, 3, 10, 11, 12, 13, 14, 15, 16, 17, 18, 19, 20, 30, 31, 32, 33, 34, 35), []int{7, 1}},
		{oneMinute(strings.Repeat("oaelf", 6), 8), []int{0, 0, 0, 0, 0, 0}},
	}
	for _, k := range known {
		if trains := impl.RegisterTrains(k.list); !slices.Equal(trains, k.want) {
			t.Errorf("RegisterTrains(%v) = %v", k.list, trains)
		}
	}
	for _, list := range append(noRegisters(), notesOf("el", 1, 5), notesOf("oaell", 1, 2, 3, 4, 5), notesOf("oaelo", 1, 2, 3, 4, 5)) {
		if trains := impl.RegisterTrains(list); len(trains) != 0 {
			t.Errorf("RegisterTrains(%s) = %v", short(list), trains)
		}
	}
}
