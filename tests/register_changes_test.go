package tests

import (
	"math"
	"math/rand/v2"
	"slices"
	"strings"
	"testing"

	"loop.example/blockboxes/impl"
)

func TestPromise57(t *testing.T) {
	for _, list := range someRegisters() {
		given := slices.Clone(list)
		shifts := []int{0, 1, -1, 3, 30, -30, 31, -31, 500, -500, 2000, -2000, 2001, -2001, math.MinInt, math.MinInt + 2000, math.MaxInt, math.MaxInt - 2000, 1 << 32, -1 << 32}
		if len(list) > 0 {
			first, last := list[0].Minute, list[len(list)-1].Minute
			shifts = append(shifts, -first, -first-1, 2000-last, 2001-last)
		}
		for _, k := range shifts {
			late, ok := impl.RegisterLate(given, k)
			want := laterBy(list, k)
			if !isRegister(want) {
				want = nil
			}
			if ok != isRegister(laterBy(list, k)) || !slices.Equal(late, want) || !slices.Equal(given, list) {
				t.Fatalf("RegisterLate(%v, %d) = %v, %v", list, k, late, ok)
			}
			checkNotesApart(t, late, given)
			if ok {
				checkLater(t, list, k, late)
			}
		}
	}
}

// checkLater checks a register later by k against the promise.
func checkLater(t *testing.T, list []impl.Note, k int, late []impl.Note) {
	t.Helper()
	if impl.RegisterText(late) != impl.RegisterText(list) {
		t.Fatalf("RegisterLate(%v, %d) = %v", list, k, late)
	}
	if len(list) == 0 {
		return
	}
	if back, ok := impl.RegisterLate(late, -k); !ok || !slices.Equal(back, list) {
		t.Fatalf("RegisterLate(%v, %d) = %v, %v", late, -k, back, ok)
	}
	offset, ok := impl.RegisterOffset(list, late, 0)
	if inRange := k >= -30 && k <= 30; ok != inRange || inRange && offset != k {
		t.Fatalf("RegisterOffset(%v, %v, 0) = %d, %v", list, late, offset, ok)
	}
}

func TestRegisterLateInvalid(t *testing.T) {
	for _, list := range noRegisters() {
		for _, k := range []int{0, 1, -1, 2, -700, 700, 2001, -2001, math.MinInt, math.MaxInt, 1 << 32, -1 << 32} {
			if late, ok := impl.RegisterLate(list, k); ok || len(late) != 0 {
				t.Fatalf("RegisterLate(%s, %d) = %s, %v", short(list), k, short(late), ok)
			}
		}
	}
	for _, k := range []int{0, 5, -5, 2001, -2001, math.MinInt, math.MaxInt} {
		if late, ok := impl.RegisterLate(nil, k); !ok || len(late) != 0 {
			t.Errorf("RegisterLate of no notes by %d = %v, %v", k, late, ok)
		}
	}
}

// checkJoin checks RegisterJoin of two registers.
func checkJoin(t *testing.T, a []impl.Note, b []impl.Note) bool {
	t.Helper()
	givenA, givenB := slices.Clone(a), slices.Clone(b)
	joined, ok := impl.RegisterJoin(givenA, givenB)
	want := slices.Concat(a, b)
	can := isRegister(want)
	if !can {
		want = nil
	}
	if ok != can || !slices.Equal(joined, want) || !slices.Equal(givenA, a) || !slices.Equal(givenB, b) {
		t.Fatalf("RegisterJoin(%v, %v) = %v, %v", a, b, joined, ok)
	}
	checkNotesApart(t, joined, givenA)
	checkNotesApart(t, joined, givenB)
	if !ok {
		return false
	}
	if impl.RegisterText(joined) != impl.RegisterText(a)+impl.RegisterText(b) {
		t.Fatalf("RegisterJoin(%v, %v) has the text %q", a, b, impl.RegisterText(joined))
	}
	normal, _ := impl.BlockNormal(impl.RegisterText(a))
	if normal && impl.RegisterSound(a) && impl.RegisterSound(b) && !impl.RegisterSound(joined) {
		t.Fatalf("RegisterJoin(%v, %v) is not sound", a, b)
	}
	return true
}

func TestPromise58(t *testing.T) {
	random := rand.New(rand.NewPCG(58, 5))
	lists := someRegisters()
	fine := 0
	for _, a := range lists {
		for range 10 {
			b := lists[random.IntN(len(lists))]
			if checkJoin(t, a, b) {
				fine++
			}
			if len(a) == 0 || len(b) == 0 {
				continue
			}
			// The second one begins in the last minute of the first one, or just ahead.
			end := a[len(a)-1].Minute - b[0].Minute
			for _, late := range [][]impl.Note{laterBy(b, end), laterBy(b, end-1), laterBy(b, end+1)} {
				if isRegister(late) && checkJoin(t, a, late) {
					fine++
				}
			}
		}
	}
	if fine < 1000 {
		t.Errorf("only %d pairs can be joined", fine)
	}
}

func TestRegisterJoinLimits(t *testing.T) {
	full := oneMinute(strings.Repeat("oaelf", 6), 9)
	roomy := append(make([]impl.Note, 0, 40), full[:7]...)
	fine := []pair{{nil, nil}, {full, nil}, {nil, full}, {full[:1], full[1:]}, {full[:29], full[29:]}, {full[:15], full[:15]}, {notesOf("o", 0), notesOf("o", 2000)}, {notesOf("f", 8), notesOf("f", 8)}, {roomy, full[7:9]}}
	for _, p := range fine {
		joined, ok := impl.RegisterJoin(p.a, p.b)
		if !ok || !slices.Equal(joined, slices.Concat(p.a, p.b)) {
			t.Errorf("RegisterJoin(%v, %v) = %v, %v", p.a, p.b, joined, ok)
		}
		checkNotesApart(t, joined, p.a)
		checkNotesApart(t, joined, p.b)
	}
	if roomy[:8][7] != (impl.Note{}) {
		t.Errorf("RegisterJoin writes behind its argument")
	}
	wrong := []pair{{full, full[:1]}, {full[:1], full}, {full[:15], full[:16]}, {full, full}, {notesOf("o", 9), notesOf("a", 8)}, {notesOf("o", 2000), notesOf("o", 0)}}
	for _, list := range noRegisters() {
		wrong = append(wrong, pair{list, nil}, pair{nil, list}, pair{list, notesOf("o", 2000)}, pair{notesOf("o", 0), list}, pair{list, list})
	}
	for _, p := range wrong {
		if joined, ok := impl.RegisterJoin(p.a, p.b); ok || len(joined) != 0 {
			t.Fatalf("RegisterJoin(%s, %s) = %s, %v", short(p.a), short(p.b), short(joined), ok)
		}
	}
}

// notesIn returns the notes of the moves of a section, whatever they are.
func notesIn(moves []impl.Move, times []int, k int) []impl.Note {
	var list []impl.Note
	for i, m := range moves {
		if m.Section == k {
			list = append(list, impl.Note{Minute: times[i], Letter: m.Letter})
		}
	}
	return list
}

// checkOf checks RegisterOf of as many times as moves.
func checkOf(t *testing.T, moves []impl.Move, times []int, k int) bool {
	t.Helper()
	givenMoves, givenTimes := slices.Clone(moves), slices.Clone(times)
	list, ok := impl.RegisterOf(givenMoves, givenTimes, k)
	want := notesIn(moves, times, k)
	can := isRegister(want)
	if !can {
		want = nil
	}
	if ok != can || !slices.Equal(list, want) || !slices.Equal(givenMoves, moves) || !slices.Equal(givenTimes, times) {
		t.Fatalf("RegisterOf(%v, %v, %d) = %v, %v", moves, times, k, list, ok)
	}
	if !ok {
		return false
	}
	if impl.RegisterText(list) != impl.LineText(moves, k) {
		t.Fatalf("RegisterOf(%v, %v, %d) = %v", moves, times, k, list)
	}
	late := slices.Clone(times)
	for i := range late {
		late[i] += 10
	}
	later, can := impl.RegisterOf(moves, late, k)
	if byLate, fine := impl.RegisterLate(list, 10); can != fine || !slices.Equal(later, byLate) {
		t.Fatalf("RegisterOf(%v, %v, %d) = %v, %v", moves, late, k, later, can)
	}
	return true
}

func TestPromise59(t *testing.T) {
	random := rand.New(rand.NewPCG(59, 5))
	fine := 0
	for _, moves := range append(plainLists(), oddLists()...) {
		for _, most := range []int{0, 1, 3, 60} {
			times := make([]int, len(moves))
			at := random.IntN(200)
			for i := range times {
				at += random.IntN(most + 1)
				times[i] = at
				if random.IntN(40) == 0 {
					times[i] = []int{-1, 2001, 0, 2000, math.MinInt, math.MaxInt, at - 1}[random.IntN(7)]
				}
			}
			for _, k := range append(sectionsIn(moves), -1, 0, 3, 5, 6, math.MinInt, math.MaxInt) {
				if checkOf(t, moves, times, k) {
					fine++
				}
			}
		}
	}
	if fine < 1000 {
		t.Errorf("only %d registers come of moves", fine)
	}
}

func TestRegisterOfLimits(t *testing.T) {
	o, a := impl.Move{Section: 0, Letter: "o"}, impl.Move{Section: 1, Letter: "a"}
	known := []struct {
		moves []impl.Move
		times []int
		k     int
		want  []impl.Note
		ok    bool
	}{
		{nil, nil, 0, nil, true},
		{nil, nil, -1, nil, true},
		{nil, nil, math.MaxInt, nil, true},
		{nil, []int{3}, 0, nil, false},
		{[]impl.Move{o}, nil, 0, nil, false},
		{[]impl.Move{o}, nil, 1, nil, false},
		{[]impl.Move{o}, []int{3, 4}, 0, nil, false},
		{[]impl.Move{o, a}, []int{3}, 0, nil, false},
		{[]impl.Move{o, a, o}, []int{3, 1, 3}, 0, notesOf("oo", 3, 3), true},
		{[]impl.Move{o, a, o}, []int{3, 1, 2}, 0, nil, false},
		{[]impl.Move{o, a, o}, []int{3, -9, 3}, 0, notesOf("oo", 3, 3), true},
		{[]impl.Move{o, a, o}, []int{3, 2001, 3}, 1, nil, false},
		{[]impl.Move{o, a, o}, []int{2001, 4, -1}, 1, notesOf("a", 4), true},
		{[]impl.Move{o, a, o}, []int{0, 4, 2000}, 0, notesOf("oo", 0, 2000), true},
		{[]impl.Move{o, a, o}, []int{-1, 4, 2000}, 0, nil, false},
		{[]impl.Move{o, a, o}, []int{0, 4, 2001}, 0, nil, false},
		{[]impl.Move{o, a, o}, []int{9, 9, 9}, 2, nil, true},
		{[]impl.Move{o, {Section: 0, Letter: "oa"}}, []int{1, 2}, 0, nil, false},
		{[]impl.Move{o, {Section: 0, Letter: ""}}, []int{1, 2}, 0, nil, false},
		{[]impl.Move{o, {Section: 1, Letter: "x"}}, []int{1, 2}, 0, notesOf("o", 1), true},
		{[]impl.Move{{Section: -4, Letter: "f"}}, []int{1}, -4, notesOf("f", 1), true},
	}
	for _, c := range known {
		if list, ok := impl.RegisterOf(c.moves, c.times, c.k); ok != c.ok || !slices.Equal(list, c.want) {
			t.Errorf("RegisterOf(%v, %v, %d) = %v, %v", c.moves, c.times, c.k, list, ok)
		}
	}
	for _, many := range []int{30, 31, 100000} {
		moves := slices.Concat(slices.Repeat([]impl.Move{a}, 1000), slices.Repeat([]impl.Move{o}, many))
		list, ok := impl.RegisterOf(moves, repeat(6, len(moves)), 0)
		if ok != (many <= 30) || ok && len(list) != many || !ok && len(list) != 0 {
			t.Errorf("RegisterOf of %d moves of the section = %s, %v", many, short(list), ok)
		}
	}
}

func TestPromise60(t *testing.T) {
	for n := 1; n <= 5; n++ {
		for trains := range 6 {
			l, _ := impl.LineNew(n, trains)
			moves, _ := impl.LineFinish(l)
			times := make([]int, len(moves))
			for i := range times {
				times[i] = i
			}
			for k := range n {
				list, ok := impl.RegisterOf(moves, times, k)
				if !ok || !impl.RegisterSound(list) || len(impl.RegisterTrains(list)) != trains {
					t.Errorf("RegisterOf(%v, %v, %d) = %v, %v", moves, times, k, list, ok)
				}
				if normal, ok := impl.BlockNormal(impl.RegisterText(list)); !ok || !normal {
					t.Errorf("%v does not lead to the normal block", list)
				}
			}
		}
	}
}

// fixOf tries each event at each index, as long as what comes of it is new.
func fixOf(list []impl.Note) ([]impl.Note, []int) {
	var notes []impl.Note
	var indexes []int
	seen := []string{}
	for i := range len(list) + 1 {
		for _, letter := range letters {
			note := impl.Note{Letter: letter}
			if i > 0 {
				note.Minute = list[i-1].Minute
			}
			fixed := slices.Insert(slices.Clone(list), i, note)
			if text := lettersOf(fixed); isSound(fixed) && !slices.Contains(seen, text) {
				seen = append(seen, text)
				notes, indexes = append(notes, note), append(indexes, i)
			}
		}
	}
	return notes, indexes
}

// brokenRegisters returns registers that lack one note of a sound one.
func brokenRegisters() [][]impl.Note {
	random := rand.New(rand.NewPCG(61, 5))
	var lists [][]impl.Note
	for _, list := range soundRegisters() {
		if len(list) > 0 {
			lists = append(lists, leftOut(list, random.IntN(len(list))))
		}
	}
	return lists
}

func TestPromise61(t *testing.T) {
	fixed := 0
	for _, list := range append(someRegisters(), brokenRegisters()...) {
		given := slices.Clone(list)
		notes, indexes := impl.RegisterFix(given)
		wantNotes, wantIndexes := fixOf(list)
		if !slices.Equal(notes, wantNotes) || !slices.Equal(indexes, wantIndexes) || !slices.Equal(given, list) {
			t.Fatalf("RegisterFix(%v) = %v, %v", list, notes, indexes)
		}
		texts := impl.BlockRepair(impl.RegisterText(list))
		if len(notes) != len(texts) {
			t.Fatalf("RegisterFix(%v) = %v, but BlockRepair = %q", list, notes, texts)
		}
		for i, text := range texts {
			whole := slices.Insert(slices.Clone(list), indexes[i], notes[i])
			if !impl.RegisterSound(whole) || impl.RegisterText(whole) != text {
				t.Fatalf("RegisterFix(%v) = %v, %v, but BlockRepair = %q", list, notes, indexes, texts)
			}
			fixed++
		}
		checkNotesApart(t, notes, given)
	}
	if fixed < 1000 {
		t.Errorf("only %d registers can be made sound", fixed)
	}
}

func TestRegisterFixKnown(t *testing.T) {
	known := []struct {
		list    []impl.Note
		notes   []impl.Note
		indexes []int
	}{
		{nil, notesOf("o", 0), []int{0}},
		{notesOf("o", 9), notesOf("ar", 9, 9), []int{1, 1}},
		{notesOf("aelf", 9, 9, 10, 11), notesOf("o", 0), []int{0}},
		{notesOf("oelf", 5, 5, 10, 11), notesOf("a", 5), []int{1}},
		{notesOf("oaef", 5, 7, 9, 2000), notesOf("l", 9), []int{3}},
		{notesOf("oael", 5, 7, 9, 2000), notesOf("f", 2000), []int{4}},
		{oneMinute("oo", 4), notesOf("r", 4), []int{1}},
		{oneMinute("oao", 2000), notesOf("c", 2000), []int{2}},
		{notesOf("oaelf", 1, 2, 3, 4, 5), notesOf("o", 5), []int{5}},
		{notesOf("oe", 6, 3000), nil, nil},
		{oneMinute("ooo", 4), nil, nil},
		{oneMinute("c", 4), nil, nil},
		{oneMinute(strings.Repeat("oaelf", 6), 4), nil, nil},
		{oneMinute(strings.Repeat("oaelf", 6)[1:], 4), notesOf("o", 0), []int{0}},
		{oneMinute(strings.Repeat("oaelf", 6)[:29], 4), notesOf("f", 4), []int{29}},
	}
	for _, k := range known {
		if notes, indexes := impl.RegisterFix(k.list); !slices.Equal(notes, k.notes) || !slices.Equal(indexes, k.indexes) {
			t.Errorf("RegisterFix(%v) = %v, %v", k.list, notes, indexes)
		}
	}
	for _, list := range noRegisters() {
		if notes, indexes := impl.RegisterFix(list); len(notes) != 0 || len(indexes) != 0 {
			t.Errorf("RegisterFix(%s) = %v, %v", short(list), notes, indexes)
		}
	}
}
