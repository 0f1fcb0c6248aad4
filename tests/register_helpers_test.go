package tests

import (
	"fmt"
	"math"
	"math/rand/v2"
	"slices"
	"strings"
	"testing"

	"loop.example/blockboxes/impl"
)

// notesOf returns notes at some minutes with the letters of a text.
func notesOf(text string, minutes ...int) []impl.Note {
	list := []impl.Note{}
	for i, minute := range minutes {
		list = append(list, impl.Note{Minute: minute, Letter: text[i : i+1]})
	}
	return list
}

// oneMinute returns notes of one minute with the letters of a text.
func oneMinute(text string, minute int) []impl.Note {
	return notesOf(text, repeat(minute, len(text))...)
}

func lettersOf(list []impl.Note) string {
	var text strings.Builder
	for _, note := range list {
		text.WriteString(note.Letter)
	}
	return text.String()
}

// short describes a list of notes that may be long, with any letters.
func short(list []impl.Note) string {
	text := fmt.Sprint(len(list), " notes")
	for _, note := range list[:min(len(list), 35)] {
		text += fmt.Sprintf(" %d%.20q", note.Minute, note.Letter)
	}
	return text
}

// isRegister takes each condition of the document by itself.
func isRegister(list []impl.Note) bool {
	if len(list) > 30 {
		return false
	}
	for i, note := range list {
		if note.Minute < 0 || note.Minute > 2000 || !slices.Contains(letters, note.Letter) {
			return false
		}
		if i > 0 && note.Minute < list[i-1].Minute {
			return false
		}
	}
	return true
}

func isSound(list []impl.Note) bool {
	return isRegister(list) && isLegal(lettersOf(list))
}

// laterBy adds minutes to those of all notes, whatever comes of it.
func laterBy(list []impl.Note, k int) []impl.Note {
	late := slices.Clone(list)
	for i := range late {
		late[i].Minute += k
	}
	return late
}

// leftOut returns the notes without that at an index.
func leftOut(list []impl.Note, i int) []impl.Note {
	return slices.Delete(slices.Clone(list), i, i+1)
}

// countUntil returns how many notes of a register are up to a minute.
func countUntil(list []impl.Note, minute int) int {
	many := 0
	for _, note := range list {
		if note.Minute <= minute {
			many++
		}
	}
	return many
}

// offsetOf tries each offset for registers, and returns the least one with
// which they agree.
func offsetOf(a []impl.Note, b []impl.Note, slack int) (int, bool) {
	if slack < 0 || slack > 5 || len(a) != len(b) || lettersOf(a) != lettersOf(b) {
		return 0, false
	}
	for offset := -30; offset <= 30; offset++ {
		agree := true
		for i := range a {
			apart := b[i].Minute - a[i].Minute - offset
			agree = agree && apart <= slack && -apart <= slack
		}
		if agree {
			return offset, true
		}
	}
	return 0, false
}

// minutesAround returns minutes ahead of all notes, just ahead of, at and
// behind each one, and behind all notes.
func minutesAround(list []impl.Note) []int {
	minutes := []int{math.MinInt, -1, 0, 2000, 2001, math.MaxInt}
	for _, note := range list {
		minutes = append(minutes, note.Minute-1, note.Minute, note.Minute+1)
	}
	slices.Sort(minutes)
	return slices.Compact(minutes)
}

// timed returns a register of a text, with each note behind the one ahead by
// at most so many minutes: with 0, all are of one minute.
func timed(random *rand.Rand, text string, most int) []impl.Note {
	minutes := make([]int, len(text))
	at := random.IntN(150)
	if random.IntN(4) == 0 {
		at = 0
	}
	for i := range minutes {
		at += random.IntN(most + 1)
		minutes[i] = at
	}
	list := notesOf(text, minutes...)
	if random.IntN(4) == 0 && len(list) > 0 {
		list = laterBy(list, 2000-at)
	}
	return list
}

func timedAll(random *rand.Rand, texts []string) [][]impl.Note {
	lists := [][]impl.Note{nil, {}}
	for _, text := range texts {
		for _, most := range []int{0, 1, 3, 60} {
			lists = append(lists, timed(random, text, most))
		}
	}
	return lists
}

// soundRegisters returns sound registers of all numbers of notes, many of
// them with several notes of one minute.
func soundRegisters() [][]impl.Note {
	return timedAll(rand.New(rand.NewPCG(16, 5)), append(legalTexts(10), longTexts()...))
}

// otherRegisters returns registers of which hardly any is sound.
func otherRegisters() [][]impl.Note {
	random := rand.New(rand.NewPCG(49, 5))
	texts := []string{"e", "oe", "el", "oaee", "oaell", strings.Repeat("o", 30), strings.Repeat("el", 15)}
	for n := range 31 {
		for range 5 {
			text := ""
			for range n {
				text += letters[random.IntN(len(letters))]
			}
			texts = append(texts, text)
		}
	}
	for _, text := range longTexts() {
		i := random.IntN(len(text))
		texts = append(texts, text[:i]+text[i+1:])
	}
	return timedAll(random, texts)
}

func someRegisters() [][]impl.Note {
	return append(soundRegisters(), otherRegisters()...)
}

// noRegisters returns lists that are no registers: with a note too many, a
// minute out of its range or less than that ahead, or a letter of no event.
func noRegisters() [][]impl.Note {
	cycles := strings.Repeat("oaelf", 6)
	lists := [][]impl.Note{
		oneMinute(cycles+"o", 0),
		oneMinute(cycles+"o", 2000),
		oneMinute(strings.Repeat("or", 50000), 7),
		notesOf("oa", 1, 0),
		notesOf("oa", 2000, 1999),
		notesOf("oae", 5, 9, 6),
		notesOf("oaelf", 0, 2, 1, 3, 4),
		{{}},
		make([]impl.Note, 30),
	}
	base := notesOf("oaelfo", 0, 700, 700, 1300, 2000, 2000)
	for i := range base {
		for _, minute := range []int{-1, -2, 2001, 2002, 100000, math.MinInt, math.MaxInt, 1 << 32, 1<<32 + 700, -1 << 32, base[i].Minute - 701, base[i].Minute + 701} {
			wrong := slices.Clone(base)
			wrong[i].Minute = minute
			lists = append(lists, wrong, []impl.Note{wrong[i]})
		}
		for _, letter := range noEvents() {
			wrong := slices.Clone(base)
			wrong[i].Letter = letter
			lists = append(lists, wrong)
		}
	}
	for _, letter := range noEvents() {
		lists = append(lists, []impl.Note{{Minute: 3, Letter: letter}})
	}
	return slices.DeleteFunc(lists, isRegister)
}

// checkNotesApart writes into notes up to their capacity, and looks whether
// this changes a given list.
func checkNotesApart(t *testing.T, result []impl.Note, given []impl.Note) {
	t.Helper()
	room, givenRoom := result[:cap(result)], given[:cap(given)]
	want, before := slices.Clone(givenRoom), slices.Clone(room)
	for i := range room {
		room[i] = impl.Note{Minute: -77, Letter: "shared"}
	}
	if !slices.Equal(givenRoom, want) {
		t.Fatalf("the result %v shares memory with the argument %v", before, want)
	}
	copy(room, before)
}
