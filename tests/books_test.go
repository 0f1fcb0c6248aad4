package tests

import (
	"math"
	"slices"
	"testing"

	"loop.example/blockboxes/impl"
)

func clearOf(book [][]int) bool {
	for _, a := range book {
		for _, b := range book {
			if len(a) < len(b) && slices.Equal(a, b[:len(a)]) {
				return false
			}
		}
	}
	return true
}

func TestBookValid(t *testing.T) {
	for _, book := range append(someBooks(), nil, tenCodes(), [][]int{{1, 1}, {1}, {1, 1, 1, 1, 1}, {6}}) {
		given := cloneBook(book)
		if !impl.BookValid(given) || !sameBook(given, book) {
			t.Errorf("%v is a book", book)
		}
	}
	for _, book := range noBooks() {
		if impl.BookValid(book) {
			t.Errorf("%v is no book", book)
		}
	}
}

func TestPromise8(t *testing.T) {
	for _, book := range append(someBooks(), nil, tenCodes(), append(tenCodes()[:9], []int{1})) {
		given := cloneBook(book)
		if impl.BookClear(given) != clearOf(book) || !sameBook(given, book) {
			t.Fatalf("BookClear(%v) = %v", book, impl.BookClear(book))
		}
		if clearOf(book) {
			checkClear(t, book)
		}
	}
	for _, book := range noBooks() {
		if impl.BookClear(book) {
			t.Errorf("%v is no book", book)
		}
	}
	if impl.BookClear([][]int{{2, 1}, {3}, {2}}) || impl.BookClear([][]int{{2}, {3}, {2, 1}}) || !impl.BookClear([][]int{{1, 2}, {2}, {3, 1}}) {
		t.Errorf("BookClear is wrong where codes begin others")
	}
}

func checkClear(t *testing.T, book [][]int) {
	for first := range len(book) + 1 {
		if !impl.BookClear(book[:first]) {
			t.Fatalf("BookClear(%v) does not hold, but for %v", book[:first], book)
		}
	}
	for i, a := range book {
		for j, b := range book {
			if impl.CodeBegins(a, b) {
				t.Fatalf("%v begins %v in %v", a, b, book)
			}
			ring, ok := impl.BookRing(book, []int{i, j})
			if !ok || impl.BookReadings(book, ring) != 1 {
				t.Fatalf("BookReadings(%v, %v) = %d", book, ring, impl.BookReadings(book, ring))
			}
		}
	}
}

func TestPromise9(t *testing.T) {
	for _, book := range append(someBooks(), nil, tenCodes()) {
		for _, code := range append(allLists(3, 2), []int{2, 5}, []int{3}, []int{1, 1, 1, 1, 1}) {
			given := cloneBook(book)
			want := slices.IndexFunc(book, func(c []int) bool { return slices.Equal(c, code) })
			found := impl.BookFind(given, code)
			if found != want || !sameBook(given, book) {
				t.Fatalf("BookFind(%v, %v) = %d", book, code, found)
			}
			if found < 0 {
				continue
			}
			without := slices.Delete(cloneBook(book), found, found+1)
			if impl.BookFind(without, code) != -1 || impl.BookReadings(book, code) < 1 {
				t.Fatalf("%v has %v at %d", book, code, found)
			}
		}
		for _, list := range noCodes {
			if found := impl.BookFind(book, list); found != -1 {
				t.Errorf("BookFind(%v, %v) = %d", book, list, found)
			}
		}
	}
	for _, book := range noBooks() {
		for _, code := range append(cloneBook(book), []int{2}, []int{3, 1}) {
			if found := impl.BookFind(book, code); found != -1 {
				t.Errorf("BookFind(%v, %v) = %d", book, code, found)
			}
		}
	}
}

func TestPromise10(t *testing.T) {
	lists := append([][]int{{}, nil}, allLists(4, 3)...)
	for _, book := range someBooks() {
		for _, numbers := range lists {
			indexes := slices.Clone(numbers)
			for i := range indexes {
				indexes[i]--
			}
			checkRing(t, book, indexes)
		}
	}
}

func checkRing(t *testing.T, book [][]int, indexes []int) {
	given, list := cloneBook(book), slices.Clone(indexes)
	ring, ok := impl.BookRing(given, list)
	if len(indexes) > 0 && slices.Max(indexes) >= len(book) {
		if ok || len(ring) != 0 {
			t.Fatalf("BookRing(%v, %v) = %v, %v", book, indexes, ring, ok)
		}
		return
	}
	if !ok || !slices.Equal(ring, join(book, indexes)) || impl.BookReadings(book, ring) < 1 {
		t.Fatalf("BookRing(%v, %v) = %v, %v", book, indexes, ring, ok)
	}
	reading, ok := impl.BookRead(book, ring)
	if !ok || len(reading) > len(indexes) {
		t.Fatalf("BookRead(%v, %v) = %v, %v", book, ring, reading, ok)
	}
	if again, ok := impl.BookRing(book, reading); !ok || !slices.Equal(again, ring) {
		t.Fatalf("BookRing(%v, %v) = %v, %v", book, reading, again, ok)
	}
	for cut := range len(indexes) + 1 {
		head, okHead := impl.BookRing(book, indexes[:cut])
		tail, okTail := impl.BookRing(book, indexes[cut:])
		if !okHead || !okTail || !slices.Equal(append(head, tail...), ring) {
			t.Fatalf("BookRing(%v, %v) cut at %d", book, indexes, cut)
		}
	}
	if len(ring) > 0 {
		ring[0] = 99
	}
	if !sameBook(given, book) || !slices.Equal(list, indexes) {
		t.Fatalf("BookRing changes %v or %v", book, indexes)
	}
}

func TestBookRingLimits(t *testing.T) {
	long := [][]int{{1, 1, 1, 1, 1}, {2}, {6, 6}}
	for _, indexes := range [][]int{{0, 0, 0, 0}, repeat(1, 20), repeat(2, 10), {0, 0, 0, 2, 2, 1}} {
		ring, ok := impl.BookRing(long, indexes)
		if !ok || len(ring) != 20 || !slices.Equal(ring, join(long, indexes)) {
			t.Errorf("BookRing(%v, %v) = %v, %v", long, indexes, ring, ok)
		}
	}
	for _, indexes := range [][]int{
		{0, 0, 0, 0, 1}, repeat(1, 21), repeat(2, 11), {0, 0, 0, 2, 2, 2}, repeat(0, 5), repeat(0, 100000),
		{-1}, {3}, {0, 3}, {-1, 0}, {0, 1, -1}, {math.MinInt}, {math.MaxInt}, {1 << 32}, {1 << 8},
	} {
		if ring, ok := impl.BookRing(long, indexes); ok || len(ring) != 0 {
			t.Errorf("BookRing(%v, %v) = %v, %v", long, indexes, ring, ok)
		}
	}
	for _, book := range noBooks() {
		for _, indexes := range [][]int{nil, {}, {0}, {1}, {0, 1}} {
			if ring, ok := impl.BookRing(book, indexes); ok || len(ring) != 0 {
				t.Errorf("BookRing(%v, %v) = %v, %v", book, indexes, ring, ok)
			}
		}
	}
	for _, empty := range [][]int{nil, {}} {
		if ring, ok := impl.BookRing(nil, empty); !ok || len(ring) != 0 {
			t.Errorf("BookRing of nothing = %v, %v", ring, ok)
		}
	}
}

func TestPromise11(t *testing.T) {
	rings := append([][]int{{}, nil}, allLists(6, 2)...)
	for _, book := range someBooks() {
		for _, ring := range rings {
			givenBook, givenRing := cloneBook(book), slices.Clone(ring)
			many := impl.BookReadings(givenBook, givenRing)
			if many != len(readingsOf(book, ring)) || impl.BookClear(book) && many > 1 {
				t.Fatalf("BookReadings(%v, %v) = %d", book, ring, many)
			}
			if !sameBook(givenBook, book) || !slices.Equal(givenRing, ring) {
				t.Fatalf("BookReadings changes %v or %v", book, ring)
			}
			if len(ring) > 0 && many != readingsBehind(book, ring) {
				t.Fatalf("BookReadings(%v, %v) = %d", book, ring, many)
			}
		}
	}
}

// readingsBehind sums what is behind each code that stands at the beginning.
func readingsBehind(book [][]int, ring []int) int {
	total := 0
	for _, code := range book {
		if len(code) <= len(ring) && slices.Equal(ring[:len(code)], code) {
			total += impl.BookReadings(book, ring[len(code):])
		}
	}
	return total
}

func TestBookReadingsLimits(t *testing.T) {
	ones := [][]int{{1}, {1, 1}, {1, 1, 1}, {1, 1, 1, 1}, {1, 1, 1, 1, 1}}
	counts := []int{1}
	for n := 1; n <= 20; n++ {
		counts = append(counts, sum(counts[max(0, n-5):]))
		if many := impl.BookReadings(ones, repeat(1, n)); many != counts[n] {
			t.Errorf("BookReadings of %d ones = %d, not %d", n, many, counts[n])
		}
	}
	for _, ring := range noRings() {
		if many := impl.BookReadings(ones, ring); many != -1 {
			t.Errorf("BookReadings(%v, %v) = %d", ones, ring, many)
		}
		if many := impl.BookReadings(nil, ring); many != -1 {
			t.Errorf("BookReadings of no codes and %v = %d", ring, many)
		}
	}
	for _, book := range noBooks() {
		for _, ring := range [][]int{nil, {2}, {3, 1}, {7}} {
			if many := impl.BookReadings(book, ring); many != -1 {
				t.Errorf("BookReadings(%v, %v) = %d", book, ring, many)
			}
		}
	}
	if impl.BookReadings(nil, nil) != 1 || impl.BookReadings(nil, []int{1}) != 0 || impl.BookReadings(ones, repeat(6, 20)) != 0 {
		t.Errorf("BookReadings is wrong for empty lists or without readings")
	}
}

func TestPromise12(t *testing.T) {
	rings := append([][]int{{}, nil}, allLists(6, 2)...)
	for _, book := range someBooks() {
		for _, ring := range rings {
			givenBook, givenRing := cloneBook(book), slices.Clone(ring)
			reading, ok := impl.BookRead(givenBook, givenRing)
			best, is := bestOf(readingsOf(book, ring))
			if ok != is || !slices.Equal(reading, best) {
				t.Fatalf("BookRead(%v, %v) = %v, %v, not %v", book, ring, reading, ok, best)
			}
			if !sameBook(givenBook, book) || !slices.Equal(givenRing, ring) {
				t.Fatalf("BookRead changes %v or %v", book, ring)
			}
			if ok {
				checkRead(t, book, ring, reading)
			}
		}
	}
}

// bestOf returns the first of the shortest readings of a sorted list.
func bestOf(readings [][]int) ([]int, bool) {
	if len(readings) == 0 {
		return nil, false
	}
	return slices.MinFunc(readings, func(a, b []int) int { return len(a) - len(b) }), true
}

func checkRead(t *testing.T, book [][]int, ring []int, reading []int) {
	if again, ok := impl.BookRing(book, reading); !ok || !slices.Equal(again, ring) {
		t.Fatalf("BookRing(%v, %v) = %v, %v", book, reading, again, ok)
	}
	for i, code := range book {
		if len(ring) < max(len(code), 1) || !slices.Equal(ring[:len(code)], code) {
			continue
		}
		rest, ok := impl.BookRead(book, ring[len(code):])
		if !ok {
			continue
		}
		if len(rest)+1 < len(reading) || len(rest)+1 == len(reading) && i < reading[0] {
			t.Fatalf("BookRead(%v, %v) = %v, but code %d leads to %v", book, ring, reading, i, rest)
		}
	}
}

func TestBookReadLimits(t *testing.T) {
	book := [][]int{{1}, {1, 1, 1}, {1, 1}, {2, 2}, {2, 2, 2, 2, 2}}
	for _, c := range []struct{ ring, want []int }{
		{nil, nil},
		{repeat(1, 20), []int{1, 1, 1, 1, 1, 1, 2}},
		{repeat(1, 4), []int{0, 1}},
		{repeat(1, 5), []int{1, 2}},
		{repeat(2, 20), []int{4, 4, 4, 4}},
		{repeat(2, 7), []int{3, 4}},
		{[]int{1, 2, 2}, []int{0, 3}},
	} {
		reading, ok := impl.BookRead(book, c.ring)
		if !ok || !slices.Equal(reading, c.want) {
			t.Errorf("BookRead(%v, %v) = %v, %v, not %v", book, c.ring, reading, ok, c.want)
		}
	}
	for _, ring := range append(noRings(), []int{2}, []int{2, 2, 2}, []int{3}, []int{1, 2}, []int{1, 1, 6}) {
		if reading, ok := impl.BookRead(book, ring); ok || len(reading) != 0 {
			t.Errorf("BookRead(%v, %v) = %v, %v", book, ring, reading, ok)
		}
	}
	for _, wrong := range noBooks() {
		for _, ring := range [][]int{nil, {2}, {3, 1}, {7}} {
			if reading, ok := impl.BookRead(wrong, ring); ok || len(reading) != 0 {
				t.Errorf("BookRead(%v, %v) = %v, %v", wrong, ring, reading, ok)
			}
		}
	}
	if reading, ok := impl.BookRead(nil, nil); !ok || len(reading) != 0 {
		t.Errorf("BookRead of nothing = %v, %v", reading, ok)
	}
	if reading, ok := impl.BookRead(nil, []int{1}); ok || len(reading) != 0 {
		t.Errorf("BookRead without codes = %v, %v", reading, ok)
	}
}
