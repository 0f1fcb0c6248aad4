package tests

import (
	"math"
	"slices"
	"strings"
	"testing"

	"loop.example/blockboxes/impl"
)

func TestConstantsOfCodes(t *testing.T) {
	if impl.GroupsMax != 5 || impl.BeatsMax != 6 || impl.BookMax != 10 {
		t.Errorf("constants are %d, %d, %d", impl.GroupsMax, impl.BeatsMax, impl.BookMax)
	}
}

func TestCodeValid(t *testing.T) {
	for _, code := range allCodes() {
		if !impl.CodeValid(code) {
			t.Errorf("%v is a code", code)
		}
	}
	for _, list := range noCodes {
		if impl.CodeValid(list) {
			t.Errorf("%v is no code", list)
		}
	}
}

func TestPromise1(t *testing.T) {
	for _, code := range allCodes() {
		given := slices.Clone(code)
		text := impl.CodeText(given)
		if text != textOf(code) || len(text) != 2*len(code)-1 {
			t.Fatalf("CodeText(%v) = %q", code, text)
		}
		back, ok := impl.CodeFrom(text)
		if !ok || !slices.Equal(back, code) {
			t.Fatalf("CodeFrom(%q) = %v, %v", text, back, ok)
		}
		digits := 0
		for _, letter := range strings.ReplaceAll(text, "-", "") {
			digits += int(letter - '0')
		}
		if beats := impl.CodeBeats(given); beats != digits || beats != sum(code) {
			t.Fatalf("CodeBeats(%v) = %d", code, beats)
		}
		if !slices.Equal(given, code) {
			t.Fatalf("%v became %v", code, given)
		}
	}
	for _, list := range noCodes {
		if text := impl.CodeText(list); text != "" {
			t.Errorf("CodeText(%v) = %q", list, text)
		}
		if beats := impl.CodeBeats(list); beats != -1 {
			t.Errorf("CodeBeats(%v) = %d", list, beats)
		}
	}
}

func TestPromise2(t *testing.T) {
	for _, code := range allCodes() {
		text := textOf(code)
		got, ok := impl.CodeFrom(text)
		if !ok || !impl.CodeValid(got) || !slices.Equal(got, code) || impl.CodeText(got) != text {
			t.Fatalf("CodeFrom(%q) = %v, %v", text, got, ok)
		}
		for _, wrong := range []string{text + "-", "-" + text, text + " ", "0" + text, text + "1"} {
			if got, ok := impl.CodeFrom(wrong); ok || len(got) != 0 {
				t.Fatalf("CodeFrom(%q) = %v, %v", wrong, got, ok)
			}
		}
	}
	for _, wrong := range []string{
		"", "-", "--", "0", "7", "9", "3-0", "3-7", "3--1", "31", "10", "3-01", "03-1", "+3", "3,1", "3 1",
		"1-1-1-1-1-1", "6-6-6-6-6-6", "3-1\n", "\n", "3\x00", "\x03", "\x03-\x01", "\xff", "3-\xff", "\xff-3",
		"\xb3", "３", "3–1", "٣", "a", "3-a", strings.Repeat("1-", 5000) + "1", strings.Repeat("-", 5000),
	} {
		if got, ok := impl.CodeFrom(wrong); ok || len(got) != 0 {
			t.Errorf("CodeFrom(%q) = %v, %v", wrong, got, ok)
		}
	}
}

// TestCodeFromShortTexts takes all texts of at most five letters of an alphabet.
func TestCodeFromShortTexts(t *testing.T) {
	texts := map[string][]int{}
	for _, code := range allCodes() {
		texts[textOf(code)] = code
	}
	layer := []string{""}
	for range 6 {
		var next []string
		for _, s := range layer {
			code, is := texts[s]
			if got, ok := impl.CodeFrom(s); ok != is || !slices.Equal(got, code) {
				t.Fatalf("CodeFrom(%q) = %v, %v", s, got, ok)
			}
			for _, letter := range []string{"0", "1", "6", "7", "-", " "} {
				next = append(next, s+letter)
			}
		}
		layer = next
	}
}

func TestPromise3(t *testing.T) {
	codes := allLists(3, 6)
	for _, a := range codes {
		for _, b := range codes {
			want := len(a) < len(b) && slices.Equal(a, b[:len(a)])
			if got := impl.CodeBegins(a, b); got != want {
				t.Fatalf("CodeBegins(%v, %v) = %v", a, b, got)
			}
			if !want {
				continue
			}
			if len(a) >= len(b) || impl.CodeBeats(a) >= impl.CodeBeats(b) || impl.CodeBegins(b, a) {
				t.Fatalf("%v begins %v, but is not shorter", a, b)
			}
		}
	}
	for _, whole := range [][]int{{1, 1, 1, 1, 1}, {6, 6, 6, 6, 6}, {3, 1, 4, 1, 5}} {
		for long := 1; long < len(whole); long++ {
			for short := 1; short < long; short++ {
				if !impl.CodeBegins(whole[:short], whole[:long]) || !impl.CodeBegins(whole[:long], whole) || !impl.CodeBegins(whole[:short], whole) {
					t.Errorf("the first %d and %d groups of %v begin it", short, long, whole)
				}
			}
		}
		if impl.CodeBegins(whole, whole) || impl.CodeBegins(whole, append(slices.Clone(whole), 1)) {
			t.Errorf("%v begins no code", whole)
		}
	}
}

func TestCodeBeginsInvalid(t *testing.T) {
	for _, list := range noCodes {
		if impl.CodeBegins(list, []int{3, 1}) || impl.CodeBegins([]int{3}, list) || impl.CodeBegins(list, list) {
			t.Errorf("%v is no code and begins none", list)
		}
	}
	if impl.CodeBegins([]int{1}, []int{1, 7}) || impl.CodeBegins([]int{7}, []int{7, 1}) || impl.CodeBegins([]int{1}, repeat(1, 6)) {
		t.Errorf("CodeBegins holds for what is no code")
	}
}

func TestPromise4(t *testing.T) {
	for _, code := range allCodes() {
		given := slices.Clone(code)
		back, ok := impl.CodeBack(given)
		if !ok || len(back) != len(code) || impl.CodeBeats(back) != impl.CodeBeats(code) {
			t.Fatalf("CodeBack(%v) = %v, %v", code, back, ok)
		}
		for i, group := range back {
			if group != code[len(code)-1-i] {
				t.Fatalf("CodeBack(%v) = %v", code, back)
			}
		}
		again, ok := impl.CodeBack(back)
		if !ok || !slices.Equal(again, code) {
			t.Fatalf("CodeBack(%v) = %v, %v", back, again, ok)
		}
		back[0] = 99
		if !slices.Equal(given, code) {
			t.Fatalf("%v became %v", code, given)
		}
	}
	for _, list := range noCodes {
		if back, ok := impl.CodeBack(list); ok || len(back) != 0 {
			t.Errorf("CodeBack(%v) = %v, %v", list, back, ok)
		}
	}
}

func TestPromise5(t *testing.T) {
	by := codesByBeats()
	for n := 0; n <= 30; n++ {
		many := impl.CodeMany(n)
		if many != len(by[n]) {
			t.Fatalf("CodeMany(%d) = %d, but there are %d", n, many, len(by[n]))
		}
		if code, ok := impl.CodeNth(n, many); ok || len(code) != 0 {
			t.Errorf("CodeNth(%d, %d) = %v, %v", n, many, code, ok)
		}
		if n == 0 {
			continue
		}
		if _, ok := impl.CodeNth(n, 0); !ok {
			t.Errorf("CodeNth(%d, 0) fails", n)
		}
		last, ok := impl.CodeNth(n, many-1)
		if !ok || last[0] != min(n, 6) {
			t.Errorf("CodeNth(%d, %d) = %v, %v", n, many-1, last, ok)
		}
	}
	for _, n := range []int{-1, 31, -30, 36, 1000, math.MinInt, math.MaxInt} {
		if many := impl.CodeMany(n); many != -1 {
			t.Errorf("CodeMany(%d) = %d", n, many)
		}
	}
}

func TestCodeManyKnown(t *testing.T) {
	for n, want := range map[int]int{0: 0, 1: 1, 2: 2, 3: 4, 4: 8, 5: 16, 6: 31, 29: 5, 30: 1} {
		if many := impl.CodeMany(n); many != want {
			t.Errorf("CodeMany(%d) = %d, not %d", n, many, want)
		}
	}
}

func TestPromise6(t *testing.T) {
	for n, codes := range codesByBeats() {
		for want, code := range codes {
			given := slices.Clone(code)
			rank := impl.CodeRank(given)
			if rank != want || rank >= impl.CodeMany(n) {
				t.Fatalf("CodeRank(%v) = %d, not %d", code, rank, want)
			}
			again, ok := impl.CodeNth(impl.CodeBeats(code), rank)
			if !ok || !slices.Equal(again, code) || !slices.Equal(given, code) {
				t.Fatalf("CodeNth(%d, %d) = %v, %v", n, rank, again, ok)
			}
		}
	}
	for _, list := range noCodes {
		if rank := impl.CodeRank(list); rank != -1 {
			t.Errorf("CodeRank(%v) = %d", list, rank)
		}
	}
}

func TestPromise7(t *testing.T) {
	for n, codes := range codesByBeats() {
		var previous []int
		for rank, want := range codes {
			code, ok := impl.CodeNth(n, rank)
			if !ok || !slices.Equal(code, want) || impl.CodeBeats(code) != n || impl.CodeRank(code) != rank {
				t.Fatalf("CodeNth(%d, %d) = %v, %v", n, rank, code, ok)
			}
			if rank > 0 && slices.Compare(previous, code) >= 0 {
				t.Fatalf("%v does not stand ahead of %v", previous, code)
			}
			previous = code
		}
	}
	for _, c := range [][2]int{
		{0, 0}, {-1, 0}, {31, 0}, {31, -1}, {4, -1}, {4, 8}, {30, 1}, {1, 1}, {-1, -1}, {0, -1},
		{math.MinInt, 0}, {math.MaxInt, 0}, {4, math.MinInt}, {4, math.MaxInt}, {math.MinInt, math.MinInt},
	} {
		if code, ok := impl.CodeNth(c[0], c[1]); ok || len(code) != 0 {
			t.Errorf("CodeNth(%d, %d) = %v, %v", c[0], c[1], code, ok)
		}
	}
}
