package tests

import (
	"math"
	"math/rand/v2"
	"slices"
	"strings"
	"testing"

	"loop.example/blockboxes/impl"
)

// noEnds are numbers that are no end of a line.
var noEnds = []int{-1, 2, 3, -2, 100, 256, 257, 1 << 32, 1<<32 + 1, -1 << 32, math.MinInt, math.MinInt + 1, math.MaxInt}

func TestDirectionsValid(t *testing.T) {
	for _, dirs := range someDirections() {
		if !impl.DirectionsValid(dirs) {
			t.Errorf("%q are no directions", dirs)
		}
	}
	for _, text := range noDirections() {
		if impl.DirectionsValid(text) {
			t.Errorf("%.40q are directions", text)
		}
	}
	for _, text := range allTexts(5, "UDu ") {
		if want := !strings.ContainsAny(text, "u "); impl.DirectionsValid(text) != want {
			t.Errorf("DirectionsValid(%q) = %v", text, !want)
		}
	}
}

func TestPromise68(t *testing.T) {
	for _, dirs := range someDirections() {
		other, ok := impl.DirectionsTurn(dirs)
		if !ok || other != turned(dirs) || len(other) != len(dirs) {
			t.Fatalf("DirectionsTurn(%q) = %q, %v", dirs, other, ok)
		}
		for i := range len(dirs) {
			if other[i] == dirs[i] || !strings.Contains("UD", other[i:i+1]) {
				t.Fatalf("DirectionsTurn(%q) = %q", dirs, other)
			}
		}
		if back, ok := impl.DirectionsTurn(other); !ok || back != dirs {
			t.Fatalf("DirectionsTurn(%q) = %q, %v, not %q", other, back, ok, dirs)
		}
		if impl.DirectionsChanges(other) != impl.DirectionsChanges(dirs) {
			t.Fatalf("DirectionsChanges of %q and %q are not the same", dirs, other)
		}
	}
	for dirs, want := range map[string]string{"": "", "U": "D", "D": "U", "UUD": "DDU", strings.Repeat("UD", 15): strings.Repeat("DU", 15)} {
		if other, ok := impl.DirectionsTurn(dirs); !ok || other != want {
			t.Errorf("DirectionsTurn(%q) = %q, %v", dirs, other, ok)
		}
	}
	for _, text := range noDirections() {
		if other, ok := impl.DirectionsTurn(text); ok || other != "" {
			t.Errorf("DirectionsTurn(%.40q) = %q, %v", text, other, ok)
		}
	}
}

// changesOf compares each train with the one ahead.
func changesOf(dirs string) int {
	changes := 0
	for i := 1; i < len(dirs); i++ {
		if dirs[i] != dirs[i-1] {
			changes++
		}
	}
	return changes
}

func TestPromise69(t *testing.T) {
	for _, dirs := range someDirections() {
		changes := impl.DirectionsChanges(dirs)
		if changes != changesOf(dirs) {
			t.Fatalf("DirectionsChanges(%q) = %d", dirs, changes)
		}
		for i := range len(dirs) + 1 {
			parts := impl.DirectionsChanges(dirs[:i]) + impl.DirectionsChanges(dirs[i:])
			if i > 0 && i < len(dirs) && dirs[i-1] != dirs[i] {
				parts++
			}
			if changes != parts {
				t.Fatalf("DirectionsChanges(%q) = %d, but %d for its parts at %d", dirs, changes, parts, i)
			}
		}
	}
	for dirs, want := range map[string]int{"": 0, "U": 0, "D": 0, "UU": 0, "UD": 1, "DU": 1, "UDU": 2, "UUDDU": 2, strings.Repeat("D", 30): 0, strings.Repeat("UD", 15): 29} {
		if changes := impl.DirectionsChanges(dirs); changes != want {
			t.Errorf("DirectionsChanges(%q) = %d", dirs, changes)
		}
	}
	for _, text := range noDirections() {
		if changes := impl.DirectionsChanges(text); changes != -1 {
			t.Errorf("DirectionsChanges(%.40q) = %d", text, changes)
		}
	}
}

func TestPromise70(t *testing.T) {
	fine := 0
	for _, dirs := range allTexts(6, "UD") {
		for _, kinds := range allTexts(min(len(dirs)+1, 6), "ST") {
			for at := range 2 {
				if checkStaff(t, at, dirs, kinds) {
					fine++
				}
			}
		}
	}
	// Each train but the last one leaves no choice.
	if want := 2 + 2*(2+4+8+16+32+64); fine != want {
		t.Errorf("StaffRun succeeds %d times, not %d", fine, want)
	}
	random := rand.New(rand.NewPCG(70, 6))
	for _, dirs := range longDirections() {
		for at := range 2 {
			all := kindsFor(at, dirs)
			for _, kinds := range all {
				checkStaff(t, at, dirs, kinds)
				i := random.IntN(len(kinds))
				checkStaff(t, at, dirs, kinds[:i]+string('S'+'T'-rune(kinds[i]))+kinds[i+1:])
			}
		}
	}
}

// checkStaff returns whether StaffRun succeeds.
func checkStaff(t *testing.T, at int, dirs string, kinds string) bool {
	t.Helper()
	end, ok := impl.StaffRun(at, dirs, kinds)
	if want, can := staffOf(at, dirs, kinds); end != want || ok != can {
		t.Fatalf("StaffRun(%d, %q, %q) = %d, %v", at, dirs, kinds, end, ok)
	}
	other, can := impl.StaffRun(1-at, turned(dirs), kinds)
	if can != ok || ok && other != 1-end {
		t.Fatalf("StaffRun(%d, %q, %q) = %d, %v, and turned %d, %v", at, dirs, kinds, end, ok, other, can)
	}
	if !ok {
		return false
	}
	if took := strings.Count(kinds, "S"); (end != at) != (took%2 == 1) {
		t.Fatalf("StaffRun(%d, %q, %q) = %d", at, dirs, kinds, end)
	}
	for i := 1; i < len(dirs); i++ {
		if (kinds[i-1] == 'S') != (dirs[i-1] != dirs[i]) {
			t.Fatalf("StaffRun(%d, %q, %q) = %d, with no staff for the train %d", at, dirs, kinds, end, i)
		}
	}
	return true
}

func TestStaffRunKnown(t *testing.T) {
	known := []struct {
		at          int
		dirs, kinds string
		end         int
		ok          bool
	}{
		{0, "", "", 0, true},
		{1, "", "", 1, true},
		{0, "U", "T", 0, true},
		{0, "U", "S", 1, true},
		{1, "D", "T", 1, true},
		{1, "D", "S", 0, true},
		{1, "U", "S", 0, false},
		{0, "D", "T", 0, false},
		{0, "UUDU", "TSST", 0, true},
		{0, "UUDU", "TSSS", 1, true},
		{0, "UUDU", "SSST", 0, false},
		{0, "UUDU", "TSTT", 0, false},
		{1, "DDD", "TTT", 1, true},
		{0, strings.Repeat("UD", 15), strings.Repeat("S", 30), 0, true},
		{0, strings.Repeat("U", 30), strings.Repeat("T", 29) + "S", 1, true},
		// Not as many kinds, or none of both letters.
		{0, "", "T", 0, false},
		{0, "", "S", 0, false},
		{0, "U", "", 0, false},
		{0, "UU", "T", 0, false},
		{0, "U", "TT", 0, false},
		{0, "U", "t", 0, false},
		{0, "U", "s", 0, false},
		{0, "U", "X", 0, false},
		{0, "U", "\x00", 0, false},
		{0, "UU", "T ", 0, false},
		{0, "UUU", "T T", 0, false},
		{0, "UU", "Š", 0, false},
		{0, "UU", "U\xff", 0, false},
	}
	for _, k := range known {
		if end, ok := impl.StaffRun(k.at, k.dirs, k.kinds); end != k.end || ok != k.ok {
			t.Errorf("StaffRun(%d, %q, %q) = %d, %v", k.at, k.dirs, k.kinds, end, ok)
		}
	}
	for letter := range 256 {
		kinds := "T" + string([]byte{byte(letter)}) + "T"
		if _, ok := impl.StaffRun(0, "UUU", kinds); ok != (letter == 'T') {
			t.Errorf("StaffRun with the kinds %q tells %v", kinds, ok)
		}
	}
}

func TestPromise71(t *testing.T) {
	for _, dirs := range someDirections() {
		for at := range 2 {
			kinds, ok := impl.StaffKinds(at, dirs)
			all := kindsFor(at, dirs)
			if ok != (len(all) > 0) || !ok && kinds != "" {
				t.Fatalf("StaffKinds(%d, %q) = %q, %v", at, dirs, kinds, ok)
			}
			if !ok {
				continue
			}
			took := strings.Count(kinds, "S")
			if _, ok := impl.StaffRun(at, dirs, kinds); !ok || took != impl.DirectionsChanges(dirs) || !slices.Contains(all, kinds) {
				t.Fatalf("StaffKinds(%d, %q) = %q", at, dirs, kinds)
			}
			for _, other := range all {
				last := max(len(dirs)-1, 0)
				if other != kinds && strings.Count(other, "S") <= took || other[:last] != kinds[:last] {
					t.Fatalf("StaffKinds(%d, %q) = %q, but %q do too", at, dirs, kinds, other)
				}
			}
		}
	}
}

func TestStaffKindsKnown(t *testing.T) {
	known := []struct {
		at    int
		dirs  string
		kinds string
		ok    bool
	}{
		{0, "", "", true},
		{1, "", "", true},
		{0, "U", "T", true},
		{1, "D", "T", true},
		{0, "D", "", false},
		{1, "U", "", false},
		{0, "UD", "ST", true},
		{1, "DU", "ST", true},
		{1, "DDUUD", "TSTST", true},
		{0, "UUDU", "TSST", true},
		{1, "UDDD", "", false},
		{0, strings.Repeat("U", 30), strings.Repeat("T", 30), true},
		{1, strings.Repeat("DU", 15), strings.Repeat("S", 29) + "T", true},
	}
	for _, k := range known {
		if kinds, ok := impl.StaffKinds(k.at, k.dirs); kinds != k.kinds || ok != k.ok {
			t.Errorf("StaffKinds(%d, %q) = %q, %v", k.at, k.dirs, kinds, ok)
		}
	}
}

func TestPromise72(t *testing.T) {
	for _, dirs := range allTexts(8, "UD") {
		for at := range 2 {
			runs := 0
			for number := range 1 << len(dirs) {
				kinds := ""
				for i := range len(dirs) {
					kinds += string("ST"[number>>i&1])
				}
				if _, ok := impl.StaffRun(at, dirs, kinds); ok {
					runs++
				}
			}
			if many := impl.StaffMany(at, dirs); many != runs {
				t.Fatalf("StaffMany(%d, %q) = %d, not %d", at, dirs, many, runs)
			}
		}
	}
	for _, dirs := range longDirections() {
		for at := range 2 {
			if many := impl.StaffMany(at, dirs); many != len(kindsFor(at, dirs)) {
				t.Fatalf("StaffMany(%d, %q) = %d", at, dirs, many)
			}
		}
	}
}

func TestStaffManyKnown(t *testing.T) {
	known := []struct {
		at   int
		dirs string
		many int
	}{
		{0, "", 1}, {1, "", 1}, {0, "U", 2}, {1, "U", 0}, {0, "D", 0}, {1, "D", 2}, {0, "UUDU", 2}, {1, "UUDU", 0},
		{0, strings.Repeat("U", 30), 2}, {1, strings.Repeat("U", 30), 0}, {1, strings.Repeat("DU", 15), 2},
	}
	for _, k := range known {
		if many := impl.StaffMany(k.at, k.dirs); many != k.many {
			t.Errorf("StaffMany(%d, %q) = %d", k.at, k.dirs, many)
		}
	}
}

func TestStaffInvalid(t *testing.T) {
	for _, at := range noEnds {
		for _, dirs := range append(allTexts(4, "UD"), longDirections()...) {
			checkNoStaff(t, at, dirs)
		}
	}
	for _, text := range noDirections() {
		for _, at := range append([]int{0, 1}, noEnds...) {
			checkNoStaff(t, at, text)
		}
	}
}

func checkNoStaff(t *testing.T, at int, dirs string) {
	t.Helper()
	for _, kind := range []string{"S", "T", "X"} {
		if end, ok := impl.StaffRun(at, dirs, strings.Repeat(kind, len(dirs))); ok || end != 0 {
			t.Fatalf("StaffRun(%d, %.40q) = %d, %v", at, dirs, end, ok)
		}
	}
	if kinds, ok := impl.StaffKinds(at, dirs); ok || kinds != "" {
		t.Fatalf("StaffKinds(%d, %.40q) = %q, %v", at, dirs, kinds, ok)
	}
	if many := impl.StaffMany(at, dirs); many != -1 {
		t.Fatalf("StaffMany(%d, %.40q) = %d", at, dirs, many)
	}
}
