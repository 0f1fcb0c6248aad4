package tests

import (
	"math"
	"math/rand/v2"
	"slices"
	"strings"

	"loop.example/blockboxes/impl"
)

// The five blocks that are possible, in the order in which a train meets them.
var (
	normalBlock  = impl.Block{}
	offeredBlock = impl.Block{Offered: true}
	clearBlock   = impl.Block{Needle: 1}
	insideBlock  = impl.Block{Needle: 2, Inside: true}
	leftBlock    = impl.Block{Needle: 2}
)

var possibleBlocks = []impl.Block{normalBlock, offeredBlock, clearBlock, insideBlock, leftBlock}

// allBlocks returns blocks with each Needle in and just out of its range, and
// with some whose low bits alone look like one, in each combination.
func allBlocks() []impl.Block {
	var blocks []impl.Block
	for _, needle := range []int{0, 1, 2, -1, -2, 3, 4, 100, math.MinInt, math.MaxInt, 256, 257, 258, 1 << 32, 1<<32 + 1, 1<<32 + 2, -1 << 32} {
		for _, inside := range []bool{false, true} {
			for _, offered := range []bool{false, true} {
				blocks = append(blocks, impl.Block{Needle: needle, Inside: inside, Offered: offered})
			}
		}
	}
	return blocks
}

// noBlocks returns the blocks of allBlocks that are not possible.
func noBlocks() []impl.Block {
	return slices.DeleteFunc(allBlocks(), func(b impl.Block) bool { return slices.Contains(possibleBlocks, b) })
}

// eventOf does an event as the document describes it, whether the block is
// possible or not.
func eventOf(b impl.Block, letter byte) (impl.Block, bool) {
	can := false
	next := b
	switch letter {
	case 'o':
		can, next.Offered = b.Needle == 0 && !b.Offered, true
	case 'r':
		can, next.Offered = b.Offered, false
	case 'a':
		can, next.Needle, next.Offered = b.Offered && !b.Inside, 1, false
	case 'c':
		can, next.Needle = b.Needle == 1, 0
	case 'e':
		can, next.Needle, next.Inside = b.Needle == 1, 2, true
	case 'l':
		can, next.Inside = b.Inside, false
	case 'f':
		can, next.Needle = b.Needle == 2 && !b.Inside, 0
	}
	if !can {
		return impl.Block{}, false
	}
	return next, true
}

// reachedBlocks returns the blocks to which some events lead from the normal one.
func reachedBlocks() []impl.Block {
	blocks := []impl.Block{{}}
	for i := 0; i < len(blocks); i++ {
		for letter := range 256 {
			next, ok := eventOf(blocks[i], byte(letter))
			if ok && !slices.Contains(blocks, next) {
				blocks = append(blocks, next)
			}
		}
	}
	return blocks
}

func runOf(b impl.Block, text string) (impl.Block, bool) {
	ok := len(text) <= 30
	for i := 0; ok && i < len(text); i++ {
		b, ok = eventOf(b, text[i])
	}
	if !ok {
		return impl.Block{}, false
	}
	return b, true
}

func isLegal(text string) bool {
	_, ok := runOf(impl.Block{}, text)
	return ok
}

// textsFrom returns all texts of n events that can be done from a block on,
// byte by byte.
func textsFrom(b impl.Block, n int) []string {
	if n == 0 {
		return []string{""}
	}
	var texts []string
	for _, letter := range "aceflor" {
		if next, ok := eventOf(b, byte(letter)); ok {
			for _, rest := range textsFrom(next, n-1) {
				texts = append(texts, string(letter)+rest)
			}
		}
	}
	return texts
}

// legalTexts returns all legal texts of at most some events.
func legalTexts(most int) []string {
	var texts []string
	for n := 0; n <= most; n++ {
		texts = append(texts, textsFrom(impl.Block{}, n)...)
	}
	return texts
}

// anyTexts returns all texts of at most some letters, those of the events and
// one of none.
func anyTexts(most int) []string {
	return allTexts(most, "aceflorx")
}

// longText returns a random text of n events that can be done from a block on.
func longText(random *rand.Rand, b impl.Block, n int) string {
	text := ""
	for range n {
		letters := nextOf(b)
		letter := letters[random.IntN(len(letters))]
		text += string(letter)
		b, _ = eventOf(b, letter)
	}
	return text
}

// longTexts returns legal texts of 8 to 30 events.
func longTexts() []string {
	random := rand.New(rand.NewPCG(9, 3))
	texts := []string{strings.Repeat("oaelf", 6), strings.Repeat("or", 15), strings.Repeat("oac", 10)}
	for n := 8; n <= 30; n++ {
		for range 10 {
			texts = append(texts, longText(random, impl.Block{}, n))
		}
	}
	return texts
}

func nextOf(b impl.Block) string {
	letters := ""
	for _, letter := range "aceflor" {
		if _, ok := eventOf(b, byte(letter)); ok {
			letters += string(letter)
		}
	}
	return letters
}

// noEvents are strings that are no letter of an event.
func noEvents() []string {
	strs := []string{"", "oo", "or", "ra", "oa", "o ", " o", "o\x00", "\x00o", "\n", "é", "о", "ο", "\u016f", "offer", strings.Repeat("o", 31), strings.Repeat("f", 100000)}
	for letter := range 256 {
		if !strings.ContainsRune("aceflor", rune(letter)) {
			strs = append(strs, string([]byte{byte(letter)}))
		}
	}
	return strs
}

// wrongTexts are texts that are not legal: with a letter of no event, with too
// many events, or with an event that can't be done.
func wrongTexts() []string {
	texts := []string{"oe", "oo", "of", "ac", "oaef", "oaelo", "oaea", "oaoa", "oacc", "ore", "O", "oA", "öa", "o a", "oa\x00", "\x00oa", "oaelf ", "oaelfx", "\xff",
		strings.Repeat("or", 15) + "o", strings.Repeat("oaelf", 6) + "o", strings.Repeat("or", 16), strings.Repeat("oaelf", 7), strings.Repeat("oaelf", 40000)}
	for _, letter := range "aceflr" {
		texts = append(texts, string(letter))
	}
	for _, letter := range noEvents()[1:] {
		texts = append(texts, letter, "o"+letter+"a", "oaelf"+letter)
	}
	return slices.DeleteFunc(texts, isLegal)
}
