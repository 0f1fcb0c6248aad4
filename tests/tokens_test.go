package tests

import (
	"math"
	"math/rand/v2"
	"strings"
	"testing"

	"loop.example/blockboxes/impl"
)

func TestConstantsOfTokens(t *testing.T) {
	if impl.TokensMax != 12 {
		t.Errorf("TokensMax is %d", impl.TokensMax)
	}
}

func TestTokenValid(t *testing.T) {
	if many := len(allTokens()); many != 91+78+78 {
		t.Fatalf("there are %d valid states", many)
	}
	for _, s := range allTokens() {
		if !impl.TokenValid(s) {
			t.Errorf("%v is invalid", s)
		}
	}
	for _, s := range noTokens() {
		if impl.TokenValid(s) {
			t.Errorf("%v is valid", s)
		}
	}
	known := map[impl.Token]bool{
		{}: true, {Out: 1}: true, {Out: 2}: true, {Out: 3}: false, {Out: -1}: false,
		{A: 12}: true, {B: 12}: true, {A: 13}: false, {B: 13}: false, {A: -1, B: 5}: false, {A: 5, B: -1}: false,
		{A: 7, B: 5}: true, {A: 7, B: 6}: false, {A: 7, B: 5, Out: 1}: false, {A: 7, B: 4, Out: 1}: true,
		{A: 11, Out: 2}: true, {A: 12, Out: 2}: false, {B: 11, Out: 1}: true, {B: 12, Out: 1}: false,
		{A: math.MaxInt, B: math.MaxInt}: false, {A: math.MaxInt, B: math.MinInt}: false, {A: math.MaxInt, B: 1}: false,
	}
	for s, want := range known {
		if impl.TokenValid(s) != want {
			t.Errorf("TokenValid(%v) = %v", s, !want)
		}
	}
}

func TestPromise62(t *testing.T) {
	steps := map[string]int{}
	for _, s := range allTokens() {
		for _, letter := range append(noTokenEvents(), tokenEvents...) {
			next, ok := impl.TokenStep(s, letter)
			if want, can := eventOfTokens(s, letter); next != want || ok != can {
				t.Fatalf("TokenStep(%v, %.40q) = %v, %v", s, letter, next, ok)
			}
			if !ok {
				continue
			}
			steps[letter]++
			if !impl.TokenValid(next) || tokensOf(next) != tokensOf(s) || outOf(next) == outOf(s) {
				t.Fatalf("TokenStep(%v, %q) = %v", s, letter, next)
			}
			if letter == "p" || letter == "q" {
				continue
			}
			if back, ok := impl.TokenStep(next, "q"); !ok || back != s {
				t.Fatalf("TokenStep(%v, q) behind %q = %v, %v, not %v", next, letter, back, ok, s)
			}
		}
	}
	// At each end there is a token in all states of rest but 13.
	if steps["a"] != 78 || steps["b"] != 78 || steps["p"] != 156 || steps["q"] != 156 {
		t.Errorf("%v events can be done", steps)
	}
}

func TestTokenStepKnown(t *testing.T) {
	known := []struct {
		s      impl.Token
		letter string
		next   impl.Token
		ok     bool
	}{
		{impl.Token{A: 2, B: 1}, "a", impl.Token{A: 1, B: 1, Out: 1}, true},
		{impl.Token{A: 2, B: 1}, "b", impl.Token{A: 2, B: 0, Out: 2}, true},
		{impl.Token{A: 1, B: 1, Out: 1}, "p", impl.Token{A: 1, B: 2}, true},
		{impl.Token{A: 1, B: 1, Out: 1}, "q", impl.Token{A: 2, B: 1}, true},
		{impl.Token{A: 1, B: 1, Out: 2}, "p", impl.Token{A: 2, B: 1}, true},
		{impl.Token{A: 1, B: 1, Out: 2}, "q", impl.Token{A: 1, B: 2}, true},
		// The last token of an end can be drawn, and no more behind it.
		{impl.Token{A: 1, B: 4}, "a", impl.Token{A: 0, B: 4, Out: 1}, true},
		{impl.Token{A: 0, B: 4}, "a", impl.Token{}, false},
		{impl.Token{A: 4, B: 1}, "b", impl.Token{A: 4, B: 0, Out: 2}, true},
		{impl.Token{A: 4, B: 0}, "b", impl.Token{}, false},
		{impl.Token{}, "a", impl.Token{}, false},
		{impl.Token{}, "b", impl.Token{}, false},
		// A token comes into an empty instrument, and into one that is almost full.
		{impl.Token{A: 0, B: 0, Out: 1}, "p", impl.Token{A: 0, B: 1}, true},
		{impl.Token{A: 0, B: 0, Out: 1}, "q", impl.Token{A: 1, B: 0}, true},
		{impl.Token{A: 11, B: 0, Out: 2}, "p", impl.Token{A: 12, B: 0}, true},
		{impl.Token{A: 0, B: 11, Out: 2}, "q", impl.Token{A: 0, B: 12}, true},
		// With one out, no other one can be drawn; with none out, none put in.
		{impl.Token{A: 1, B: 1, Out: 1}, "a", impl.Token{}, false},
		{impl.Token{A: 1, B: 1, Out: 1}, "b", impl.Token{}, false},
		{impl.Token{A: 1, B: 1, Out: 2}, "a", impl.Token{}, false},
		{impl.Token{A: 1, B: 1, Out: 2}, "b", impl.Token{}, false},
		{impl.Token{A: 1, B: 1}, "p", impl.Token{}, false},
		{impl.Token{A: 1, B: 1}, "q", impl.Token{}, false},
	}
	for _, k := range known {
		if next, ok := impl.TokenStep(k.s, k.letter); next != k.next || ok != k.ok {
			t.Errorf("TokenStep(%v, %q) = %v, %v", k.s, k.letter, next, ok)
		}
	}
}

func TestTokenInvalid(t *testing.T) {
	letters := append([]string{"", "ap", "x", strings.Repeat("ap", 16)}, tokenEvents...)
	for _, s := range noTokens() {
		for _, text := range letters {
			if next, ok := impl.TokenStep(s, text); ok || next != (impl.Token{}) {
				t.Fatalf("TokenStep(%v, %q) = %v, %v", s, text, next, ok)
			}
			if end, ok := impl.TokenRun(s, text); ok || end != (impl.Token{}) {
				t.Fatalf("TokenRun(%v, %q) = %v, %v", s, text, end, ok)
			}
		}
		for _, n := range []int{0, 1, 2, 30, 31, -1, math.MinInt, math.MaxInt} {
			if many := impl.TokenMany(s, n); many != -1 {
				t.Fatalf("TokenMany(%v, %d) = %d", s, n, many)
			}
		}
		for _, dirs := range []string{"", "U", "D", "UUDD", "X", strings.Repeat("U", 31)} {
			if carry, ok := impl.TokenCarry(s, dirs); ok || carry != 0 {
				t.Fatalf("TokenCarry(%v, %q) = %d, %v", s, dirs, carry, ok)
			}
		}
	}
}

func TestPromise63(t *testing.T) {
	texts := allTexts(5, "abpqx")
	for _, s := range allTokens() {
		for _, text := range texts {
			checkTokenRun(t, s, text)
		}
	}
	random := rand.New(rand.NewPCG(63, 6))
	for _, s := range allTokens() {
		for range 20 {
			text := someTokenText(random, s, 1+random.IntN(30))
			checkTokenRun(t, s, text)
			if at := random.IntN(len(text) + 1); len(text) < 30 {
				checkTokenRun(t, s, text[:at]+string("abpq "[random.IntN(5)])+text[at:])
			}
		}
	}
}

func checkTokenRun(t *testing.T, s impl.Token, text string) {
	t.Helper()
	end, ok := impl.TokenRun(s, text)
	if want, can := eventsOfTokens(s, text); end != want || ok != can {
		t.Fatalf("TokenRun(%v, %q) = %v, %v, not %v, %v", s, text, end, ok, want, can)
	}
	if !ok {
		return
	}
	drawn := strings.Count(text, "a") + strings.Count(text, "b")
	put := strings.Count(text, "p") + strings.Count(text, "q")
	if tokensOf(end) != tokensOf(s) || drawn-put != outOf(end)-outOf(s) {
		t.Fatalf("TokenRun(%v, %q) = %v", s, text, end)
	}
	for i := range len(text) + 1 {
		middle, first := impl.TokenRun(s, text[:i])
		last, rest := impl.TokenRun(middle, text[i:])
		if !first || !rest || last != end {
			t.Fatalf("TokenRun of %q and %q from %v on ends with %v, %v", text[:i], text[i:], s, last, rest)
		}
	}
}

func TestTokenRunLimits(t *testing.T) {
	for _, s := range allTokens() {
		if end, ok := impl.TokenRun(s, ""); !ok || end != s {
			t.Errorf("TokenRun of no events from %v on = %v, %v", s, end, ok)
		}
	}
	s := impl.Token{A: 1}
	known := []struct {
		text string
		end  impl.Token
		ok   bool
	}{
		{strings.Repeat("apbp", 7) + "ap", impl.Token{B: 1}, true},
		{strings.Repeat("aq", 15), s, true},
		{strings.Repeat("aq", 15) + "a", impl.Token{}, false},
		{strings.Repeat("aq", 16), impl.Token{}, false},
		{strings.Repeat("aq", 50000), impl.Token{}, false},
		{"apa", impl.Token{}, false},
		{"apbqb", impl.Token{Out: 2}, true},
		{"ab", impl.Token{}, false},
		{"b", impl.Token{}, false},
		{"p", impl.Token{}, false},
		{"ap ", impl.Token{}, false},
		{"A", impl.Token{}, false},
		{"aP", impl.Token{}, false},
		{"äp", impl.Token{}, false},
		{"a\x00p", impl.Token{}, false},
		{"\xff", impl.Token{}, false},
	}
	for _, k := range known {
		if end, ok := impl.TokenRun(s, k.text); end != k.end || ok != k.ok {
			t.Errorf("TokenRun(%v, %.40q) = %v, %v", s, k.text, end, ok)
		}
	}
	// All tokens but one come to the other end, and that one stays out.
	full := impl.Token{A: 12}
	if end, ok := impl.TokenRun(full, strings.Repeat("ap", 12)); !ok || end != (impl.Token{B: 12}) {
		t.Errorf("TokenRun of twelve tokens = %v, %v", end, ok)
	}
	if end, ok := impl.TokenRun(full, strings.Repeat("ap", 12)+"a"); ok || end != (impl.Token{}) {
		t.Errorf("TokenRun of thirteen tokens = %v, %v", end, ok)
	}
	if end, ok := impl.TokenRun(full, strings.Repeat("ap", 11)+"a"); !ok || end != (impl.Token{B: 11, Out: 1}) {
		t.Errorf("TokenRun of eleven tokens and one that is out = %v, %v", end, ok)
	}
}

// manyOfTokens counts one text after the other.
func manyOfTokens(s impl.Token, n int) int {
	if n == 0 {
		return 1
	}
	many := 0
	for _, letter := range tokenEvents {
		if next, ok := eventOfTokens(s, letter); ok {
			many += manyOfTokens(next, n-1)
		}
	}
	return many
}

func TestPromise64(t *testing.T) {
	for _, s := range allTokens() {
		for n := range 31 {
			many := impl.TokenMany(s, n)
			if n < 10 && many != manyOfTokens(s, n) {
				t.Fatalf("TokenMany(%v, %d) = %d, not %d", s, n, many, manyOfTokens(s, n))
			}
			if other := impl.TokenMany(exchangedTokens(s), n); many != other || many < 0 {
				t.Fatalf("TokenMany(%v, %d) = %d, and for both ends exchanged %d", s, n, many, other)
			}
			if n == 0 {
				continue
			}
			sum := 0
			for _, letter := range tokenEvents {
				if next, ok := impl.TokenStep(s, letter); ok {
					sum += impl.TokenMany(next, n-1)
				}
			}
			if many != sum {
				t.Fatalf("TokenMany(%v, %d) = %d, not %d", s, n, many, sum)
			}
		}
	}
}

func TestTokenManyKnown(t *testing.T) {
	known := []struct {
		s    impl.Token
		n    int
		many int
	}{
		{impl.Token{}, 0, 1},
		{impl.Token{}, 1, 0},
		{impl.Token{}, 30, 0},
		{impl.Token{A: 1}, 1, 1},
		{impl.Token{A: 1}, 2, 2},
		{impl.Token{A: 1}, 3, 2},
		{impl.Token{A: 1}, 4, 4},
		{impl.Token{A: 1}, 30, 1 << 15},
		{impl.Token{B: 1}, 30, 1 << 15},
		{impl.Token{Out: 1}, 1, 2},
		{impl.Token{Out: 2}, 30, 1 << 15},
		{impl.Token{A: 2}, 1, 1},
		{impl.Token{A: 2}, 3, 3},
		{impl.Token{A: 2, B: 1}, 1, 2},
		{impl.Token{A: 2, B: 1}, 2, 4},
		{impl.Token{A: 6, B: 6}, 12, 1 << 12},
		{impl.Token{A: 6, B: 6}, 13, 1<<13 - 2},
	}
	for _, k := range known {
		if many := impl.TokenMany(k.s, k.n); many != k.many {
			t.Errorf("TokenMany(%v, %d) = %d, not %d", k.s, k.n, many, k.many)
		}
	}
	for _, s := range allTokens() {
		if impl.TokenMany(s, 0) != 1 {
			t.Errorf("TokenMany(%v, 0) = %d", s, impl.TokenMany(s, 0))
		}
		for _, n := range []int{-1, -2, 31, 32, 1000, math.MinInt, math.MaxInt, 1 << 32, 1<<32 + 3, 256, -1 << 32} {
			if many := impl.TokenMany(s, n); many != -1 {
				t.Errorf("TokenMany(%v, %d) = %d", s, n, many)
			}
		}
	}
}

func TestPromise65(t *testing.T) {
	fine := 0
	for _, dirs := range someDirections() {
		text, ok := impl.TokenTrains(dirs)
		if ok != (len(dirs) <= 15) || ok && text != eventsFor(dirs) || !ok && text != "" {
			t.Fatalf("TokenTrains(%q) = %q, %v", dirs, text, ok)
		}
		a, b, _ := impl.TokenNeeds(dirs)
		if !ok || a+b > 12 {
			continue
		}
		fine++
		ups, downs := strings.Count(dirs, "U"), strings.Count(dirs, "D")
		end, ok := impl.TokenRun(impl.Token{A: a, B: b}, text)
		if !ok || end != (impl.Token{A: a - ups + downs, B: b + ups - downs}) {
			t.Fatalf("TokenRun of %q with %d and %d tokens = %v, %v", text, a, b, end, ok)
		}
		for _, s := range []impl.Token{{A: a - 1, B: b}, {A: a, B: b - 1}} {
			if end, ok := impl.TokenRun(s, text); ok {
				t.Fatalf("TokenRun of %q from %v on = %v, %v", text, s, end, ok)
			}
		}
	}
	if fine < 511 {
		t.Errorf("trains can go in only %d directions", fine)
	}
}

// eventsFor writes the events of one train after the other.
func eventsFor(dirs string) string {
	text := ""
	for _, direction := range dirs {
		if direction == 'U' {
			text += "a"
		} else {
			text += "b"
		}
		text += "p"
	}
	return text
}

func TestTokenTrainsKnown(t *testing.T) {
	known := map[string]string{"": "", "U": "ap", "D": "bp", "UUDU": "apapbpap", strings.Repeat("D", 15): strings.Repeat("bp", 15), strings.Repeat("UUD", 5): strings.Repeat("apapbp", 5)}
	for dirs, want := range known {
		if text, ok := impl.TokenTrains(dirs); !ok || text != want {
			t.Errorf("TokenTrains(%q) = %q, %v", dirs, text, ok)
		}
	}
	for _, dirs := range append(noDirections(), strings.Repeat("U", 16), strings.Repeat("UD", 8), strings.Repeat("D", 30)) {
		if text, ok := impl.TokenTrains(dirs); ok || text != "" {
			t.Errorf("TokenTrains(%.40q) = %q, %v", dirs, text, ok)
		}
	}
}

func TestPromise66(t *testing.T) {
	for _, dirs := range someDirections() {
		a, b, ok := impl.TokenNeeds(dirs)
		if wantA, wantB := needsOf(dirs); !ok || a != wantA || b != wantB {
			t.Fatalf("TokenNeeds(%q) = %d, %d, %v, not %d, %d", dirs, a, b, ok, wantA, wantB)
		}
		if a+b > len(dirs) || a+b < min(1, len(dirs)) {
			t.Fatalf("TokenNeeds(%q) = %d, %d", dirs, a, b)
		}
		otherA, otherB, ok := impl.TokenNeeds(turned(dirs))
		if !ok || otherA != b || otherB != a {
			t.Fatalf("TokenNeeds(%q) = %d, %d, but %d, %d turned", dirs, a, b, otherA, otherB)
		}
	}
	for n := 1; n <= 30; n++ {
		dirs := strings.Repeat("UD", 15)[:n]
		if a, b, ok := impl.TokenNeeds(dirs); !ok || a != 1 || b != 0 {
			t.Errorf("TokenNeeds(%q) = %d, %d, %v", dirs, a, b, ok)
		}
		if a, b, ok := impl.TokenNeeds(turned(dirs)); !ok || a != 0 || b != 1 {
			t.Errorf("TokenNeeds(%q) = %d, %d, %v", turned(dirs), a, b, ok)
		}
	}
}

func TestTokenNeedsKnown(t *testing.T) {
	known := map[string][2]int{
		"": {0, 0}, "U": {1, 0}, "D": {0, 1}, "UUDDD": {2, 1}, "DDU": {0, 2}, "DUU": {1, 1}, "UDDUUU": {2, 1}, "UDUUDDDD": {2, 2},
		// More tokens than a section can have, and more events than a text.
		strings.Repeat("U", 12):                            {12, 0},
		strings.Repeat("U", 13):                            {13, 0},
		strings.Repeat("U", 30):                            {30, 0},
		strings.Repeat("D", 30):                            {0, 30},
		strings.Repeat("D", 10) + strings.Repeat("U", 20):  {10, 10},
		strings.Repeat("UUUDDD", 5):                        {3, 0},
		strings.Repeat("D", 15) + strings.Repeat("UD", 7):  {0, 15},
		strings.Repeat("DU", 7) + strings.Repeat("U", 16):  {16, 1},
		strings.Repeat("UD", 14) + strings.Repeat("DD", 1): {1, 2},
	}
	for dirs, want := range known {
		if a, b, ok := impl.TokenNeeds(dirs); !ok || a != want[0] || b != want[1] {
			t.Errorf("TokenNeeds(%q) = %d, %d, %v", dirs, a, b, ok)
		}
	}
	for _, dirs := range noDirections() {
		if a, b, ok := impl.TokenNeeds(dirs); ok || a != 0 || b != 0 {
			t.Errorf("TokenNeeds(%.40q) = %d, %d, %v", dirs, a, b, ok)
		}
	}
}

func TestPromise67(t *testing.T) {
	carried := map[int]int{}
	for _, s := range restTokens() {
		for _, dirs := range someDirections() {
			carry, ok := impl.TokenCarry(s, dirs)
			if want, can := carryOf(s, dirs); carry != want || ok != can {
				t.Fatalf("TokenCarry(%v, %q) = %d, %v, not %d, %v", s, dirs, carry, ok, want, can)
			}
			text, fits := impl.TokenTrains(dirs)
			if !ok || !fits {
				continue
			}
			carried[carry]++
			if _, ok := impl.TokenRun(impl.Token{A: s.A + carry, B: s.B - carry}, text); !ok {
				t.Fatalf("with TokenCarry(%v, %q) = %d the trains can't go", s, dirs, carry)
			}
			if _, ok := impl.TokenRun(s, text); ok != (carry == 0) {
				t.Fatalf("TokenCarry(%v, %q) = %d, but the trains can go at once: %v", s, dirs, carry, ok)
			}
			less := carry - sign(carry)
			if _, ok := impl.TokenRun(impl.Token{A: s.A + less, B: s.B - less}, text); ok != (carry == 0) {
				t.Fatalf("TokenCarry(%v, %q) = %d, but with %d the trains can go: %v", s, dirs, carry, less, ok)
			}
		}
	}
	for carry := -12; carry <= 12; carry++ {
		if carried[carry] == 0 {
			t.Errorf("no trains need %d tokens to be carried", carry)
		}
	}
}

func sign(x int) int {
	return min(max(x, -1), 1)
}

func TestTokenCarryKnown(t *testing.T) {
	known := []struct {
		s     impl.Token
		dirs  string
		carry int
		ok    bool
	}{
		{impl.Token{A: 0, B: 4}, "UUD", 2, true},
		{impl.Token{A: 4, B: 0}, "DDU", -2, true},
		{impl.Token{A: 1, B: 3}, "UUD", 1, true},
		{impl.Token{A: 2, B: 2}, "UUD", 0, true},
		{impl.Token{A: 2, B: 0}, "UUD", 0, true},
		{impl.Token{A: 3, B: 0}, "UUDDD", -1, true},
		{impl.Token{A: 0, B: 3}, "UUDDD", 2, true},
		{impl.Token{A: 2, B: 0}, "UUDDD", 0, false},
		{impl.Token{A: 0, B: 2}, "UUDDD", 0, false},
		// No tokens at an end, or at both.
		{impl.Token{}, "", 0, true},
		{impl.Token{}, "U", 0, false},
		{impl.Token{}, "D", 0, false},
		{impl.Token{A: 1}, "", 0, true},
		{impl.Token{A: 1}, "U", 0, true},
		{impl.Token{A: 1}, "D", -1, true},
		{impl.Token{B: 1}, "U", 1, true},
		{impl.Token{B: 1}, "D", 0, true},
		{impl.Token{B: 1}, "UU", 0, false},
		{impl.Token{A: 12}, strings.Repeat("U", 12), 0, true},
		{impl.Token{B: 12}, strings.Repeat("U", 12), 12, true},
		{impl.Token{A: 12}, strings.Repeat("D", 12), -12, true},
		{impl.Token{A: 12}, strings.Repeat("U", 13), 0, false},
		{impl.Token{A: 5, B: 7}, strings.Repeat("D", 12), -5, true},
		// More trains than TokenTrains has room for.
		{impl.Token{B: 2}, strings.Repeat("UD", 15), 1, true},
		{impl.Token{A: 1}, strings.Repeat("DU", 15), -1, true},
		{impl.Token{A: 1}, strings.Repeat("UD", 15) + "U", 0, false},
		// A token that is out.
		{impl.Token{A: 2, B: 2, Out: 1}, "", 0, false},
		{impl.Token{A: 2, B: 2, Out: 1}, "U", 0, false},
		{impl.Token{A: 2, B: 2, Out: 2}, "DU", 0, false},
	}
	for _, k := range known {
		if carry, ok := impl.TokenCarry(k.s, k.dirs); carry != k.carry || ok != k.ok {
			t.Errorf("TokenCarry(%v, %q) = %d, %v", k.s, k.dirs, carry, ok)
		}
	}
	for _, s := range allTokens() {
		if s.Out == 0 {
			continue
		}
		for _, dirs := range allTexts(3, "UDX") {
			if carry, ok := impl.TokenCarry(s, dirs); ok || carry != 0 {
				t.Errorf("TokenCarry(%v, %q) = %d, %v", s, dirs, carry, ok)
			}
		}
	}
	for _, dirs := range noDirections() {
		for _, s := range []impl.Token{{}, {A: 12}, {A: 6, B: 6}, {B: 1}, {A: 3, B: 3, Out: 1}} {
			if carry, ok := impl.TokenCarry(s, dirs); ok || carry != 0 {
				t.Errorf("TokenCarry(%v, %.40q) = %d, %v", s, dirs, carry, ok)
			}
		}
	}
}
