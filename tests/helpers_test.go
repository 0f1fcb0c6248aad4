package tests

import (
	"math"
	"slices"
	"strconv"
	"strings"
)

// noCodes are lists that are no codes: empty, with a group or a number of
// groups just out of its range, or with a group whose low bits alone look
// like one.
var noCodes = [][]int{
	nil, {}, {0}, {-1}, {7}, {1, 0}, {0, 1}, {3, 7, 1}, {6, 6, 6, 6, 7}, {1, 1, 1, 1, 1, 1},
	{6, 6, 6, 6, 6, 6}, {math.MinInt}, {math.MaxInt}, {257}, {1<<32 + 1}, {1 << 8, 1}, make([]int, 1000),
}

// allLists returns all lists of one to most numbers from 1 to top, in the
// order of their numbers of groups and then group by group.
func allLists(most int, top int) [][]int {
	var all [][]int
	layer := [][]int{{}}
	for range most {
		var next [][]int
		for _, list := range layer {
			for group := 1; group <= top; group++ {
				next = append(next, append(slices.Clone(list), group))
			}
		}
		all = append(all, next...)
		layer = next
	}
	return all
}

// allTexts returns all texts of at most some letters out of an alphabet.
func allTexts(most int, alphabet string) []string {
	texts := []string{""}
	for start, n := 0, 0; n < most; n++ {
		end := len(texts)
		for _, text := range texts[start:end] {
			for _, letter := range alphabet {
				texts = append(texts, text+string(letter))
			}
		}
		start = end
	}
	return texts
}

func allCodes() [][]int {
	return allLists(5, 6)
}

// codesByBeats returns the codes of each number of beats, compared group by group.
func codesByBeats() map[int][][]int {
	by := map[int][][]int{}
	for _, code := range allCodes() {
		by[sum(code)] = append(by[sum(code)], code)
	}
	for _, codes := range by {
		slices.SortFunc(codes, slices.Compare[[]int])
	}
	return by
}

func sum(list []int) int {
	total := 0
	for _, x := range list {
		total += x
	}
	return total
}

func repeat(group int, times int) []int {
	return slices.Repeat([]int{group}, times)
}

func textOf(code []int) string {
	var words []string
	for _, group := range code {
		words = append(words, strconv.Itoa(group))
	}
	return strings.Join(words, "-")
}

func cloneBook(book [][]int) [][]int {
	clone := make([][]int, len(book))
	for i, code := range book {
		clone[i] = slices.Clone(code)
	}
	return clone
}

func sameBook(a [][]int, b [][]int) bool {
	return slices.EqualFunc(a, b, slices.Equal[[]int])
}

// join returns the groups of codes with some indexes, one behind the other.
func join(book [][]int, indexes []int) []int {
	ring := []int{}
	for _, i := range indexes {
		ring = append(ring, book[i]...)
	}
	return ring
}

// readingsOf tries each code at each place, and returns all readings in the
// order of their indexes.
func readingsOf(book [][]int, ring []int) [][]int {
	if len(ring) == 0 {
		return [][]int{{}}
	}
	var all [][]int
	for i, code := range book {
		if len(code) > len(ring) || !slices.Equal(ring[:len(code)], code) {
			continue
		}
		for _, rest := range readingsOf(book, ring[len(code):]) {
			all = append(all, append([]int{i}, rest...))
		}
	}
	return all
}

// someBooks returns all books of at most three codes of a pool in each order;
// many of these codes begin others.
func someBooks() [][][]int {
	pool := [][]int{{1}, {2}, {1, 1}, {1, 2}, {2, 1}, {1, 1, 1}, {2, 1, 2}}
	books := [][][]int{{}}
	for start := 0; start < len(books); start++ {
		if len(books[start]) == 3 {
			break
		}
		for _, code := range pool {
			if !slices.ContainsFunc(books[start], func(c []int) bool { return slices.Equal(c, code) }) {
				books = append(books, append(slices.Clone(books[start]), code))
			}
		}
	}
	return books
}

// tenCodes is a book of as many codes as there can be, none beginning another.
func tenCodes() [][]int {
	book := [][]int{}
	for _, first := range []int{1, 2} {
		for second := 1; second <= 5; second++ {
			book = append(book, []int{first, second})
		}
	}
	return book
}

func noBooks() [][][]int {
	books := [][][]int{
		append(tenCodes(), []int{6}),
		{{1}, {1}},
		{{2, 1}, {3}, {2, 1}},
		append(tenCodes()[:9], []int{1, 1}),
	}
	for _, list := range noCodes {
		books = append(books, [][]int{list}, [][]int{{2}, list}, [][]int{list, {3, 1}})
	}
	return books
}

// noRings are lists that are no rings.
func noRings() [][]int {
	return [][]int{{0}, {7}, {-1}, {1, 0}, {1, 7, 1}, repeat(1, 21), repeat(6, 21), append(repeat(1, 19), 7),
		{math.MinInt}, {math.MaxInt}, {257}, {1<<32 + 1}, make([]int, 1000)}
}
