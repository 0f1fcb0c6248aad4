package tests

import (
	"math"
	"math/rand/v2"
	"slices"
	"strings"
	"testing"

	"loop.example/blockboxes/impl"
)

// someSlacks are those of the range, and some out of it.
var someSlacks = []int{0, 1, 2, 3, 4, 5, -1, -2, -5, 6, 7, 2000, math.MinInt, math.MinInt + 1, math.MaxInt, math.MaxInt - 1, 1 << 32, 256, -1 << 32}

// pair is two registers, mostly of both ends of one section.
type pair struct {
	a []impl.Note
	b []impl.Note
}

func (p pair) clone() pair {
	return pair{slices.Clone(p.a), slices.Clone(p.b)}
}

func (p pair) is(other pair) bool {
	return slices.Equal(p.a, other.a) && slices.Equal(p.b, other.b)
}

// closePairs returns all pairs of two notes each, of one minute or not, with
// the second register later by up to 37 minutes or earlier.
func closePairs() []pair {
	var pairs []pair
	for _, gap := range []int{0, 1, 100} {
		for first := -37; first <= 37; first++ {
			for second := -37; second <= 37; second++ {
				p := pair{notesOf("or", 50, 50+gap), notesOf("or", 50+first, 50+gap+second)}
				if isRegister(p.b) {
					pairs = append(pairs, p)
				}
			}
		}
	}
	return pairs
}

// shaken returns a register later by some minutes, and each note by some more,
// in order.
func shaken(random *rand.Rand, list []impl.Note, late int, more int) []impl.Note {
	result := laterBy(list, late)
	for i := range result {
		result[i].Minute += random.IntN(2*more+1) - more
		if i > 0 {
			result[i].Minute = max(result[i].Minute, result[i-1].Minute)
		}
	}
	return result
}

// shakenPairs returns pairs of registers of which many agree, and others that
// differ in one letter or in their numbers of notes.
func shakenPairs() []pair {
	random := rand.New(rand.NewPCG(50, 5))
	var pairs []pair
	lists := someRegisters()
	for _, list := range lists {
		for _, more := range []int{0, 1, 3, 5, 6} {
			p := pair{list, shaken(random, list, random.IntN(73)-36, more)}
			if !isRegister(p.b) {
				p.b = shaken(random, list, 0, 0)
			}
			pairs = append(pairs, p)
		}
		if len(list) == 0 {
			continue
		}
		other := slices.Clone(list)
		other[random.IntN(len(list))].Letter = letters[random.IntN(len(letters))]
		pairs = append(pairs, pair{list, other}, pair{list, list[1:]}, pair{list, list[:len(list)-1]}, pair{list[1:], list}, pair{list, lists[random.IntN(len(lists))]})
	}
	return pairs
}

func somePairs() []pair {
	return append(closePairs(), shakenPairs()...)
}

func TestPromise50(t *testing.T) {
	fine := 0
	for _, p := range somePairs() {
		given := p.clone()
		least, before := 0, false
		for _, slack := range someSlacks {
			offset, ok := impl.RegisterOffset(given.a, given.b, slack)
			if want, can := offsetOf(p.a, p.b, slack); offset != want || ok != can {
				t.Fatalf("RegisterOffset(%v, %v, %d) = %d, %v", p.a, p.b, slack, offset, ok)
			}
			if slack < 0 || slack > 5 {
				continue
			}
			if before && (!ok || offset > least) {
				t.Fatalf("RegisterOffset(%v, %v, %d) = %d, %v, but %d for a lesser slack", p.a, p.b, slack, offset, ok, least)
			}
			least, before = offset, ok
			if !ok {
				continue
			}
			fine++
			for i := range p.a {
				if apart := p.b[i].Minute - p.a[i].Minute - offset; max(apart, -apart) > slack {
					t.Fatalf("RegisterOffset(%v, %v, %d) = %d", p.a, p.b, slack, offset)
				}
			}
		}
		if !given.is(p) {
			t.Fatalf("RegisterOffset changed %v to %v", p, given)
		}
	}
	if fine < 10000 {
		t.Errorf("only %d pairs agree", fine)
	}
}

func TestRegisterOffsetSame(t *testing.T) {
	for _, list := range someRegisters() {
		for slack := range 6 {
			want := -slack
			if len(list) == 0 {
				want = -30
			}
			if offset, ok := impl.RegisterOffset(list, list, slack); !ok || offset != want {
				t.Fatalf("RegisterOffset of %v and itself with %d = %d, %v", list, slack, offset, ok)
			}
		}
	}
}

func TestRegisterOffsetLimits(t *testing.T) {
	none := 99
	list := func(minutes ...int) []impl.Note { return notesOf("oaelf", minutes...) }
	known := []struct {
		a, b  []impl.Note
		slack int
		want  int
	}{
		{list(100), list(130), 0, 30},
		{list(100), list(131), 0, none},
		{list(100), list(131), 1, 30},
		{list(100), list(135), 5, 30},
		{list(100), list(136), 5, none},
		{list(100), list(70), 0, -30},
		{list(100), list(69), 0, none},
		{list(100), list(69), 1, -30},
		{list(100), list(65), 5, -30},
		{list(100), list(64), 5, none},
		{list(100), list(74), 5, -30},
		{list(100), list(76), 5, -29},
		{list(100, 200), list(100, 210), 5, 5},
		{list(100, 200), list(100, 211), 5, none},
		{list(100, 200), list(110, 200), 5, 5},
		{list(100, 200), list(111, 200), 5, none},
		{list(100, 100), list(100, 110), 5, 5},
		{list(100, 100), list(100, 111), 5, none},
		{list(100, 110), list(100, 100), 5, -5},
		{list(100, 111), list(100, 100), 5, none},
		{list(100, 200, 300), list(125, 235, 330), 5, 30},
		{list(100, 200, 300), list(126, 236, 330), 5, none},
		{list(100, 200, 300), list(75, 165, 270), 5, -30},
		{list(100, 200, 300), list(74, 164, 270), 5, none},
		{list(0), list(2000), 5, none},
		{list(2000), list(0), 5, none},
		{list(0, 2000), list(0, 2000), 0, 0},
		{list(100), list(), 5, none},
		{list(), list(100), 5, none},
		{list(100, 200), list(100), 5, none},
		{list(100), notesOf("a", 100), 5, none},
		{notesOf("or", 100, 100), notesOf("ro", 100, 100), 5, none},
	}
	for _, k := range known {
		offset, ok := impl.RegisterOffset(k.a, k.b, k.slack)
		if ok != (k.want != none) || ok && offset != k.want || !ok && offset != 0 {
			t.Errorf("RegisterOffset(%v, %v, %d) = %d, %v", k.a, k.b, k.slack, offset, ok)
		}
	}
	for _, slack := range someSlacks {
		offset, ok := impl.RegisterOffset(nil, []impl.Note{}, slack)
		if valid := slack >= 0 && slack <= 5; ok != valid || valid && offset != -30 || !valid && offset != 0 {
			t.Errorf("RegisterOffset of no notes with %d = %d, %v", slack, offset, ok)
		}
	}
}

func TestPromise51(t *testing.T) {
	fine, failed := 0, 0
	for _, p := range somePairs() {
		late := laterBy(p.b, 3)
		if len(p.a) == 0 || !isRegister(late) {
			continue
		}
		for slack := range 6 {
			offset, ok := impl.RegisterOffset(p.a, p.b, slack)
			if !ok || offset == -30 {
				continue
			}
			later, can := impl.RegisterOffset(p.a, late, slack)
			if can != (offset+3 <= 30) || can && later != offset+3 || !can && later != 0 {
				t.Fatalf("RegisterOffset(%v, %v, %d) = %d, %v, and %d three minutes ahead", p.a, late, slack, later, can, offset)
			}
			if can {
				fine++
			} else {
				failed++
			}
		}
	}
	if fine < 1000 || failed < 100 {
		t.Errorf("three minutes later, %d pairs agree, and %d do not", fine, failed)
	}
}

func TestPromise52(t *testing.T) {
	count := map[int]int{}
	for _, p := range somePairs() {
		given := p.clone()
		slack, ok := impl.RegisterSlack(given.a, given.b)
		if back, can := impl.RegisterSlack(given.b, given.a); back != slack || can != ok || !given.is(p) {
			t.Fatalf("RegisterSlack(%v, %v) = %d, %v, and exchanged %d, %v", p.a, p.b, slack, ok, back, can)
		}
		for with := range 6 {
			_, can := offsetOf(p.a, p.b, with)
			_, does := impl.RegisterOffset(p.a, p.b, with)
			if want := ok && with >= slack; can != want || does != want {
				t.Fatalf("RegisterSlack(%v, %v) = %d, %v, but they agree with %d: %v, %v", p.a, p.b, slack, ok, with, can, does)
			}
		}
		if !ok && slack != 0 {
			t.Fatalf("RegisterSlack(%v, %v) = %d, %v", p.a, p.b, slack, ok)
		}
		if ok {
			count[slack]++
		}
		if same, ok := impl.RegisterSlack(p.a, p.a); !ok || same != 0 {
			t.Fatalf("RegisterSlack of %v and itself = %d, %v", p.a, same, ok)
		}
	}
	for slack := range 6 {
		if count[slack] < 100 {
			t.Errorf("only %d pairs agree with %d", count[slack], slack)
		}
	}
}

func TestRegisterSlackLimits(t *testing.T) {
	list := func(minutes ...int) []impl.Note { return notesOf("oaelf", minutes...) }
	known := []struct {
		a, b []impl.Note
		want int
	}{
		{list(), list(), 0},
		{list(100), list(130), 0},
		{list(100), list(131), 1},
		{list(100), list(135), 5},
		{list(100), list(136), -1},
		{list(100), list(70), 0},
		{list(100), list(65), 5},
		{list(100), list(64), -1},
		{list(100, 200), list(103, 204), 1},
		{list(100, 200), list(103, 205), 1},
		{list(100, 200), list(103, 206), 2},
		{list(100, 200), list(100, 210), 5},
		{list(100, 200), list(100, 211), -1},
		{list(100, 100), list(100, 104), 2},
		{list(100, 100, 100), list(95, 100, 105), 5},
		{list(100, 100, 100), list(95, 100, 106), -1},
		{list(100), list(), -1},
		{list(100), notesOf("a", 100), -1},
	}
	for _, k := range known {
		slack, ok := impl.RegisterSlack(k.a, k.b)
		if ok != (k.want >= 0) || slack != max(k.want, 0) {
			t.Errorf("RegisterSlack(%v, %v) = %d, %v", k.a, k.b, slack, ok)
		}
	}
}

func TestRegisterPairsInvalid(t *testing.T) {
	check := func(a []impl.Note, b []impl.Note) {
		t.Helper()
		for _, slack := range someSlacks {
			if offset, ok := impl.RegisterOffset(a, b, slack); ok || offset != 0 {
				t.Fatalf("RegisterOffset(%s, %s, %d) = %d, %v", short(a), short(b), slack, offset, ok)
			}
			if indexes := impl.RegisterMissing(a, b, slack); len(indexes) != 0 {
				t.Fatalf("RegisterMissing(%s, %s, %d) = %v", short(a), short(b), slack, indexes)
			}
		}
		if slack, ok := impl.RegisterSlack(a, b); ok || slack != 0 {
			t.Fatalf("RegisterSlack(%s, %s) = %d, %v", short(a), short(b), slack, ok)
		}
	}
	for _, list := range noRegisters() {
		check(list, list)
		check(list, nil)
		check(nil, list)
		check(list, notesOf("o", 3))
		// Without its note, the first register would be empty.
		check(notesOf("o", 3), list)
		if len(list) <= 31 {
			check(list, list[1:])
			check(list, list[:len(list)-1])
			check(append(slices.Clone(list), list[0]), list)
		}
	}
}

// missingOf leaves out each note in turn.
func missingOf(a []impl.Note, b []impl.Note, slack int) []int {
	var indexes []int
	for i := range a {
		if _, ok := offsetOf(leftOut(a, i), b, slack); ok {
			indexes = append(indexes, i)
		}
	}
	return indexes
}

// missingPairs returns pairs of which the second register mostly lacks a note.
func missingPairs() []pair {
	random := rand.New(rand.NewPCG(56, 5))
	var pairs []pair
	for _, list := range someRegisters() {
		pairs = append(pairs, pair{list, list}, pair{nil, list}, pair{list, nil})
		if len(list) == 0 {
			continue
		}
		for _, more := range []int{0, 2, 5} {
			p := pair{list, shaken(random, leftOut(list, random.IntN(len(list))), random.IntN(71)-35, more)}
			if isRegister(p.b) {
				pairs = append(pairs, p, pair{p.b, p.a})
			}
		}
		if len(list) > 1 {
			pairs = append(pairs, pair{list, list[2:]})
		}
	}
	return pairs
}

func TestPromise56(t *testing.T) {
	several := 0
	for _, p := range missingPairs() {
		given := p.clone()
		for slack := -1; slack <= 6; slack++ {
			indexes := impl.RegisterMissing(given.a, given.b, slack)
			if !slices.Equal(indexes, missingOf(p.a, p.b, slack)) || !given.is(p) {
				t.Fatalf("RegisterMissing(%v, %v, %d) = %v", p.a, p.b, slack, indexes)
			}
			if len(indexes) > 0 && len(p.a) != len(p.b)+1 {
				t.Fatalf("RegisterMissing(%v, %v, %d) = %v", p.a, p.b, slack, indexes)
			}
			if len(indexes) > 1 {
				several++
			}
			for _, i := range indexes {
				rest := leftOut(p.a, i)
				if least, ok := impl.RegisterSlack(rest, p.b); !ok || least > slack {
					t.Fatalf("RegisterMissing(%v, %v, %d) = %v, but RegisterSlack = %d", p.a, p.b, slack, indexes, least)
				}
				if again := impl.RegisterMissing(p.a, rest, 0); !slices.Contains(again, i) {
					t.Fatalf("RegisterMissing(%v, %v, 0) = %v, without %d", p.a, rest, again, i)
				}
			}
		}
	}
	if several < 100 {
		t.Errorf("only %d pairs have several notes that can be left out", several)
	}
}

func TestRegisterMissingKnown(t *testing.T) {
	full := strings.Repeat("oaelf", 6)
	known := []struct {
		a, b  []impl.Note
		slack int
		want  []int
	}{
		{nil, nil, 0, nil},
		{notesOf("o", 7), nil, 0, []int{0}},
		{notesOf("o", 7), nil, 5, []int{0}},
		{notesOf("o", 7), nil, 6, nil},
		{notesOf("o", 7), nil, -1, nil},
		{nil, notesOf("o", 7), 0, nil},
		{notesOf("oo", 7, 7), notesOf("o", 7), 0, []int{0, 1}},
		{notesOf("oo", 7, 38), notesOf("o", 7), 0, []int{1}},
		{notesOf("oo", 7, 38), notesOf("o", 7), 1, []int{0, 1}},
		{notesOf("oo", 7, 7), notesOf("o", 37), 0, []int{0, 1}},
		{notesOf("oo", 7, 7), notesOf("o", 42), 5, []int{0, 1}},
		{notesOf("oo", 7, 7), notesOf("o", 43), 5, nil},
		{oneMinute("oror", 9), oneMinute("oor", 9), 0, []int{1}},
		{oneMinute("oror", 9), oneMinute("ror", 9), 0, []int{0}},
		{oneMinute("oror", 9), oneMinute("orr", 9), 0, []int{2}},
		{oneMinute("oror", 9), oneMinute("oro", 9), 0, []int{3}},
		{oneMinute("oror", 9), oneMinute("or", 9), 0, nil},
		{oneMinute("ooooo", 9), oneMinute("oooo", 9), 0, []int{0, 1, 2, 3, 4}},
		{notesOf("ooo", 10, 12, 20), notesOf("oo", 10, 20), 0, []int{1}},
		{notesOf("ooo", 10, 12, 20), notesOf("oo", 10, 20), 1, []int{0, 1}},
		{notesOf("ooo", 10, 12, 20), notesOf("oo", 10, 20), 3, []int{0, 1}},
		{notesOf("ooo", 10, 12, 20), notesOf("oo", 10, 20), 4, []int{0, 1, 2}},
		{oneMinute(full, 9), oneMinute(full[:12]+full[13:], 39), 0, []int{12}},
		{oneMinute(full, 9), oneMinute(full, 9), 5, nil},
		{oneMinute(full[1:], 9), oneMinute(full, 9), 5, nil},
	}
	for _, k := range known {
		if indexes := impl.RegisterMissing(k.a, k.b, k.slack); !slices.Equal(indexes, k.want) {
			t.Errorf("RegisterMissing(%v, %v, %d) = %v", k.a, k.b, k.slack, indexes)
		}
	}
	for _, slack := range someSlacks {
		indexes := impl.RegisterMissing(oneMinute("oo", 7), oneMinute("o", 7), slack)
		if valid := slack >= 0 && slack <= 5; valid && !slices.Equal(indexes, []int{0, 1}) || !valid && len(indexes) != 0 {
			t.Errorf("RegisterMissing with the slack %d = %v", slack, indexes)
		}
	}
}
