package impl

import (
	"slices"
	"strings"
)

// GroupsMax is the greatest number of groups of a code.
const GroupsMax = 5

// BeatsMax is the greatest number of beats of a group.
const BeatsMax = 6

// BookMax is the greatest number of codes of a book.
const BookMax = 10

// ringMax is the greatest number of groups of a ring.
const ringMax = 20

// groups is a code or a ring as a string with one digit for each group, so
// that prefixes, equality and map keys of strings serve for codes and rings.
type groups string

// groupsOf returns a list of at most `most` groups, and whether it is one.
func groupsOf(list []int, most int) (groups, bool) {
	if len(list) > most {
		return "", false
	}
	var digits strings.Builder
	for _, beats := range list {
		if beats < 1 || beats > BeatsMax {
			return "", false
		}
		digits.WriteByte(byte('0' + beats))
	}
	return groups(digits.String()), true
}

func codeOf(list []int) (groups, bool) {
	code, ok := groupsOf(list, GroupsMax)
	return code, ok && code != ""
}

// ringOf accepts an empty list, unlike codeOf: a ring may have no groups.
func ringOf(list []int) (groups, bool) {
	return groupsOf(list, ringMax)
}

func (g groups) list() []int {
	list := make([]int, 0, len(g))
	for _, digit := range g {
		list = append(list, int(digit-'0'))
	}
	return list
}

func (g groups) text() string {
	var text strings.Builder
	for i, digit := range g {
		if i > 0 {
			text.WriteByte('-')
		}
		text.WriteRune(digit)
	}
	return text.String()
}

func (g groups) beats() int {
	sum := 0
	for _, digit := range g {
		sum += int(digit - '0')
	}
	return sum
}

func (g groups) standsAhead(other groups) bool {
	return strings.HasPrefix(string(other), string(g))
}

func (g groups) begins(other groups) bool {
	return len(g) < len(other) && g.standsAhead(other)
}

// CodeValid reports whether a list is a code.
func CodeValid(code []int) bool {
	_, ok := codeOf(code)
	return ok
}

// CodeText returns the text of a code, or "" if the list is none.
func CodeText(code []int) string {
	c, ok := codeOf(code)
	if !ok {
		return ""
	}
	return c.text()
}

// CodeFrom returns the code with a text, and true.
func CodeFrom(s string) ([]int, bool) {
	code := groups(strings.ReplaceAll(s, "-", "")).list()
	// Only a text that CodeText writes itself has its hyphens at the right places.
	if !CodeValid(code) || CodeText(code) != s {
		return nil, false
	}
	return code, true
}

// CodeBeats returns the number of beats of a code, or -1 if the list is none.
func CodeBeats(code []int) int {
	c, ok := codeOf(code)
	if !ok {
		return -1
	}
	return c.beats()
}

// CodeBegins reports whether two lists are codes and the first one begins the second one.
func CodeBegins(a []int, b []int) bool {
	first, ok := codeOf(a)
	if !ok {
		return false
	}
	second, ok := codeOf(b)
	return ok && first.begins(second)
}

// CodeBack returns the groups of a code in the opposite order, and true.
func CodeBack(code []int) ([]int, bool) {
	c, ok := codeOf(code)
	if !ok {
		return nil, false
	}
	back := c.list()
	slices.Reverse(back)
	return back, true
}

// groupings returns how many lists of at most `most` groups have n beats
// together, the empty list among them if n is 0.
func groupings(n int, most int) int {
	if n == 0 {
		return 1
	}
	if n > most*BeatsMax {
		return 0
	}
	sum := 0
	for group := 1; group <= min(n, BeatsMax); group++ {
		sum += groupings(n-group, most-1)
	}
	return sum
}

// CodeMany returns how many codes have n beats, or -1 if n is not in the range 0 to GroupsMax*BeatsMax.
func CodeMany(n int) int {
	if n < 0 || n > GroupsMax*BeatsMax {
		return -1
	}
	if n == 0 {
		return 0
	}
	return groupings(n, GroupsMax)
}

// CodeRank returns how many codes of as many beats come ahead of a code, or -1 if the list is none.
func CodeRank(code []int) int {
	left := CodeBeats(code)
	if left < 0 {
		return -1
	}
	rank := 0
	for i, group := range code {
		for lesser := 1; lesser < group; lesser++ {
			rank += groupings(left-lesser, GroupsMax-i-1)
		}
		left -= group
	}
	return rank
}

// CodeNth returns the code of n beats with a rank, and true.
func CodeNth(n int, rank int) ([]int, bool) {
	if rank < 0 || rank >= CodeMany(n) {
		return nil, false
	}
	code := []int{}
	for n > 0 {
		group, ahead := nthGroup(n, GroupsMax-len(code), rank)
		code = append(code, group)
		n -= group
		rank -= ahead
	}
	return code, true
}

// nthGroup returns the first group of the list with a rank among those that
// groupings counts, and how many of them have a lesser first group.
func nthGroup(n int, most int, rank int) (int, int) {
	ahead := 0
	for group := 1; group < min(n, BeatsMax); group++ {
		many := groupings(n-group, most-1)
		if rank < ahead+many {
			return group, ahead
		}
		ahead += many
	}
	return min(n, BeatsMax), ahead
}

// bookOf returns the codes of a book, and whether a list is one.
func bookOf(book [][]int) ([]groups, bool) {
	if len(book) > BookMax {
		return nil, false
	}
	codes := make([]groups, 0, len(book))
	for _, list := range book {
		code, ok := codeOf(list)
		if !ok || slices.Contains(codes, code) {
			return nil, false
		}
		codes = append(codes, code)
	}
	return codes, true
}

// BookValid reports whether a list is a book.
func BookValid(book [][]int) bool {
	_, ok := bookOf(book)
	return ok
}

// BookClear reports whether a list is a book that is clear.
func BookClear(book [][]int) bool {
	codes, ok := bookOf(book)
	if !ok {
		return false
	}
	for _, a := range codes {
		if slices.ContainsFunc(codes, a.begins) {
			return false
		}
	}
	return true
}

// BookFind returns the index of a code in a book, or -1 if the list is no book or does not have it.
func BookFind(book [][]int, code []int) int {
	codes, ok := bookOf(book)
	if !ok {
		return -1
	}
	c, ok := codeOf(code)
	if !ok {
		return -1
	}
	return slices.Index(codes, c)
}

// BookRing returns the ring that a list of indexes of codes of a book makes, and true.
func BookRing(book [][]int, list []int) ([]int, bool) {
	codes, ok := bookOf(book)
	if !ok {
		return nil, false
	}
	var ring groups
	for _, i := range list {
		if i < 0 || i >= len(codes) {
			return nil, false
		}
		ring += codes[i]
		if len(ring) > ringMax {
			return nil, false
		}
	}
	return ring.list(), true
}

// outlook tells how many readings the rest of a ring has and, if there are
// any, how many codes the best of them has and the index of its first one.
type outlook struct {
	readings int
	codes    int
	first    int
}

// outlooks returns the outlook of a ring and of all that can be left of it.
func (g groups) outlooks(codes []groups) map[groups]outlook {
	known := map[groups]outlook{"": {readings: 1}}
	for i := len(g) - 1; i >= 0; i-- {
		known[g[i:]] = g[i:].outlook(codes, known)
	}
	return known
}

// outlook needs to know the outlook of what is left behind each code.
func (g groups) outlook(codes []groups, known map[groups]outlook) outlook {
	var whole outlook
	for i, code := range codes {
		if !code.standsAhead(g) {
			continue
		}
		rest := known[g[len(code):]]
		if rest.readings == 0 {
			continue
		}
		if whole.readings == 0 || rest.codes+1 < whole.codes {
			whole.codes = rest.codes + 1
			whole.first = i
		}
		whole.readings += rest.readings
	}
	return whole
}

// BookReadings returns how many readings a ring has, or -1 if the list is no book or the ring is none.
func BookReadings(book [][]int, ring []int) int {
	codes, ok := bookOf(book)
	if !ok {
		return -1
	}
	r, ok := ringOf(ring)
	if !ok {
		return -1
	}
	return r.outlooks(codes)[r].readings
}

// BookRead returns the reading of a ring with the fewest codes, and true.
func BookRead(book [][]int, ring []int) ([]int, bool) {
	codes, ok := bookOf(book)
	if !ok {
		return nil, false
	}
	rest, ok := ringOf(ring)
	if !ok {
		return nil, false
	}
	known := rest.outlooks(codes)
	if known[rest].readings == 0 {
		return nil, false
	}
	reading := []int{}
	for rest != "" {
		first := known[rest].first
		reading = append(reading, first)
		rest = rest[len(codes[first]):]
	}
	return reading, true
}
