package tests

import (
	"math"
	"math/rand/v2"
	"slices"
	"strings"

	"loop.example/blockboxes/impl"
)

// tokenEvents are the letters of all events of tokens.
var tokenEvents = []string{"a", "b", "p", "q"}

// isToken takes each condition of the document by itself.
func isToken(t impl.Token) bool {
	if t.A < 0 || t.A > 12 || t.B < 0 || t.B > 12 || t.Out < 0 || t.Out > 2 {
		return false
	}
	return tokensOf(t) <= 12
}

// tokensOf returns the number of tokens of a state, that out among them.
func tokensOf(t impl.Token) int {
	return t.A + t.B + outOf(t)
}

func outOf(t impl.Token) int {
	return min(t.Out, 1)
}

// allTokens returns all valid states.
func allTokens() []impl.Token {
	var states []impl.Token
	for a := range 13 {
		for b := range 13 {
			for out := range 3 {
				states = append(states, impl.Token{A: a, B: b, Out: out})
			}
		}
	}
	return slices.DeleteFunc(states, func(t impl.Token) bool { return !isToken(t) })
}

// restTokens returns all valid states with no token out.
func restTokens() []impl.Token {
	return slices.DeleteFunc(allTokens(), func(t impl.Token) bool { return t.Out != 0 })
}

// noTokens returns states that are not valid: with a number just out of its
// range or too great in all, or such that its low bits alone, or a sum that
// wraps around, look like a valid one.
func noTokens() []impl.Token {
	var states []impl.Token
	for a := -2; a <= 14; a++ {
		for b := -2; b <= 14; b++ {
			for out := -2; out <= 4; out++ {
				states = append(states, impl.Token{A: a, B: b, Out: out})
			}
		}
	}
	odd := []int{math.MinInt, math.MinInt + 1, math.MaxInt, math.MaxInt - 1, math.MaxInt - 11, 1 << 32, 1<<32 + 1, 256, 257, -1 << 32, 1 << 62, 0, 1, 3}
	for _, a := range odd {
		for _, b := range odd {
			for _, out := range odd {
				states = append(states, impl.Token{A: a, B: b, Out: out})
			}
		}
	}
	return slices.DeleteFunc(states, isToken)
}

// noTokenEvents are strings that are no letter of an event of tokens.
func noTokenEvents() []string {
	strs := []string{"", "aa", "ap", "pa", "pq", "a ", " a", "a\x00", "\x00a", "\n", "é", "а", "р", "\u0161", "\u0170", strings.Repeat("a", 31), strings.Repeat("p", 100000)}
	for letter := range 256 {
		if !strings.ContainsRune("abpq", rune(letter)) {
			strs = append(strs, string([]byte{byte(letter)}))
		}
	}
	return strs
}

// eventOfTokens does an event of a valid state as the document describes it.
func eventOfTokens(t impl.Token, letter string) (impl.Token, bool) {
	at := [2]int{t.A, t.B}
	goesTo, comesFrom := 2-t.Out, t.Out-1
	switch {
	case letter == "a" || letter == "b":
		end := strings.Index("ab", letter)
		if t.Out != 0 || at[end] == 0 {
			return impl.Token{}, false
		}
		at[end]--
		return impl.Token{A: at[0], B: at[1], Out: end + 1}, true
	case letter == "p" && t.Out != 0:
		at[goesTo]++
	case letter == "q" && t.Out != 0:
		at[comesFrom]++
	default:
		return impl.Token{}, false
	}
	return impl.Token{A: at[0], B: at[1]}, true
}

// eventsOfTokens does the events of a text, however long, from a valid state on.
func eventsOfTokens(t impl.Token, text string) (impl.Token, bool) {
	for i := range len(text) {
		next, ok := eventOfTokens(t, text[i:i+1])
		if !ok {
			return impl.Token{}, false
		}
		t = next
	}
	return t, true
}

func exchangedTokens(t impl.Token) impl.Token {
	return impl.Token{A: t.B, B: t.A, Out: []int{0, 2, 1}[t.Out]}
}

// someTokenText returns a random text of at most n events, as many as can be
// done from a state on.
func someTokenText(random *rand.Rand, t impl.Token, n int) string {
	text := ""
	for range n {
		var can []string
		for _, letter := range tokenEvents {
			if _, ok := eventOfTokens(t, letter); ok {
				can = append(can, letter)
			}
		}
		if len(can) == 0 {
			return text
		}
		letter := can[random.IntN(len(can))]
		text += letter
		t, _ = eventOfTokens(t, letter)
	}
	return text
}

// longDirections returns directions of 9 to 30 trains.
func longDirections() []string {
	random := rand.New(rand.NewPCG(19, 6))
	texts := []string{
		strings.Repeat("UD", 15), strings.Repeat("DU", 15),
		strings.Repeat("U", 15) + strings.Repeat("D", 15),
		strings.Repeat("D", 10) + strings.Repeat("U", 20),
		strings.Repeat("U", 12) + "D", strings.Repeat("D", 13) + "UUU",
		strings.Repeat("UUD", 10), strings.Repeat("DDUDU", 6),
	}
	for n := 9; n <= 30; n++ {
		texts = append(texts, strings.Repeat("U", n), strings.Repeat("D", n))
		for range 8 {
			text := ""
			for range n {
				if len(text) > 0 && random.IntN(3) == 0 {
					text += text[len(text)-1:]
				} else {
					text += string("UD"[random.IntN(2)])
				}
			}
			texts = append(texts, text)
		}
	}
	return texts
}

// someDirections returns all directions of at most 8 trains, and longer ones.
func someDirections() []string {
	return append(allTexts(8, "UD"), longDirections()...)
}

// noDirections are texts that are no directions: with a letter too many, or
// another one.
func noDirections() []string {
	texts := []string{
		strings.Repeat("U", 31), strings.Repeat("D", 31), strings.Repeat("UD", 15) + "U", strings.Repeat("DU", 16), strings.Repeat("UD", 100000),
		"u", "d", "Ud", "uD", "U D", " UD", "UD ", "UD\n", "U-D", "U\x00D", "\x00", "UD\x00", "S", "T", "UT", "SD", "0", "ÚD", "UÐ", "\u0155", "\u0144D", "U\xffD", "\xd5", "UXD", "A", "B", "X",
	}
	for letter := range 256 {
		if letter != 'U' && letter != 'D' {
			wrong := string([]byte{byte(letter)})
			texts = append(texts, wrong, "UD"+wrong, wrong+"UD", "UU"+wrong+"DD")
		}
	}
	return texts
}

// turned exchanges both directions.
func turned(dirs string) string {
	return strings.Map(func(r rune) rune { return 'U' + 'D' - r }, dirs)
}

// canGo lets trains in some directions go one by one, each with a token.
func canGo(a int, b int, dirs string) bool {
	for _, direction := range dirs {
		if direction == 'U' {
			a, b = a-1, b+1
		} else {
			a, b = a+1, b-1
		}
		if a < 0 || b < 0 {
			return false
		}
	}
	return true
}

// needsOf tries all numbers of tokens at one end, with so many at the other
// one that these are always enough.
func needsOf(dirs string) (int, int) {
	a, b := 0, 0
	for !canGo(a, 100, dirs) {
		a++
	}
	for !canGo(100, b, dirs) {
		b++
	}
	return a, b
}

// carryOf tries all numbers of tokens to carry, the least ones first.
func carryOf(t impl.Token, dirs string) (int, bool) {
	for many := range 13 {
		for _, carry := range []int{many, -many} {
			if t.A+carry >= 0 && t.B-carry >= 0 && canGo(t.A+carry, t.B-carry, dirs) {
				return carry, true
			}
		}
	}
	return 0, false
}

// staffOf follows the staff as the document describes it.
func staffOf(at int, dirs string, kinds string) (int, bool) {
	if len(kinds) != len(dirs) {
		return 0, false
	}
	for i := range len(dirs) {
		if at != strings.Index("UD", dirs[i:i+1]) {
			return 0, false
		}
		switch kinds[i] {
		case 'S':
			at = []int{1, 0}[at]
		case 'T':
		default:
			return 0, false
		}
	}
	return at, true
}

// kindsFor returns all kinds with which trains can go from an end on, letter by letter.
func kindsFor(at int, dirs string) []string {
	if dirs == "" {
		return []string{""}
	}
	var all []string
	for _, kind := range []string{"S", "T"} {
		if next, ok := staffOf(at, dirs[:1], kind); ok {
			for _, rest := range kindsFor(next, dirs[1:]) {
				all = append(all, kind+rest)
			}
		}
	}
	return all
}
