package tests

import (
	"fmt"
	"math/rand/v2"
	"slices"
	"strings"
	"testing"

	"loop.example/blockboxes/impl"
)

// cabin is a model of what the lines of a script change. It checks each line
// by the other models.
type cabin struct {
	line  impl.Line
	paths []impl.Path
	moves []impl.Move
	times []int
	time  int
}

func numberIn(word string) int {
	n := 0
	for i := range len(word) {
		if word[i] < '0' || word[i] > '9' {
			return 9999
		}
		n = 10*n + int(word[i]-'0')
	}
	if len(word) < 1 || len(word) > 4 {
		return 9999
	}
	return n
}

// cut returns what is between the marks in a text.
func cut(text string, mark byte) []string {
	parts := []string{""}
	for i := range len(text) {
		if text[i] == mark {
			parts = append(parts, "")
		} else {
			parts[len(parts)-1] += text[i : i+1]
		}
	}
	return parts
}

// plain writes a list as fmt does, without the brackets around it.
func plain(list []int) string {
	return strings.Trim(fmt.Sprint(list), "[]")
}

// wordsFor returns how many words there are behind a word, or -1 behind one
// that no line begins with.
func (c *cabin) wordsFor(first string) int {
	switch first {
	case "finish", "where", "next":
		return 0
	case "wait", "book", "busy":
		return 1
	case "line", "do":
		return 2
	case "fit":
		return 1 + len(c.line.Blocks)
	}
	return -1
}

// doAll does moves one by one, or none of them.
func (c *cabin) doAll(moves []impl.Move) bool {
	line := c.line
	for _, m := range moves {
		next, ok := moveOf(line, m)
		if !ok {
			return false
		}
		line = next
	}
	if len(c.moves)+len(moves) > 100 {
		return false
	}
	for _, m := range moves {
		c.moves, c.times = append(c.moves, m), append(c.times, c.time)
	}
	c.line = line
	return true
}

func (c *cabin) fit(from int, runs []int) string {
	if len(c.paths) == 8 || slices.Min(runs) < 1 || slices.Max(runs) > 100 || from > 2000 {
		return "no"
	}
	path, ok := fitOf(c.paths, from, runs)
	if !ok {
		return "no"
	}
	c.paths = append(c.paths, path)
	return plain(path.In)
}

func (c *cabin) book(k int) string {
	notes := notesIn(c.moves, c.times, k)
	if k >= len(c.line.Blocks) || !isRegister(notes) {
		return "no"
	}
	text := ""
	for _, note := range notes {
		text += fmt.Sprint(" ", note.Minute) + note.Letter
	}
	return strings.TrimPrefix(text, " ")
}

func (c *cabin) next() string {
	text := ""
	for _, m := range movesOf(c.line) {
		text += fmt.Sprint(" ", m.Section) + m.Letter
	}
	return strings.TrimPrefix(text, " ")
}

// tell returns the first text, or that it failed.
func tell(text string, ok bool) string {
	if !ok {
		return "no"
	}
	return text
}

func (c *cabin) answer(line string) string {
	words := cut(line, ' ')
	first, words := words[0], words[1:]
	if len(words) != c.wordsFor(first) {
		return "what"
	}
	numbers := []int{}
	for _, word := range words {
		numbers = append(numbers, numberIn(word))
	}
	switch first {
	case "line":
		n, trains := numbers[0], numbers[1]
		ok := n >= 1 && n <= 5 && trains <= 5
		if ok {
			*c = cabin{line: startOf(n, trains)}
		}
		return tell("ok", ok)
	case "wait":
		ok := c.time+numbers[0] <= 2000
		if ok {
			c.time += numbers[0]
		}
		return tell("ok", ok)
	case "do":
		return tell("ok", c.doAll([]impl.Move{{Section: numbers[0], Letter: words[1]}}))
	case "finish":
		moves := finishOf(c.line)
		return tell(fmt.Sprint("moves ", len(moves)), c.doAll(moves))
	case "where":
		return plain(c.line.Trains)
	case "next":
		return c.next()
	case "book":
		return c.book(numbers[0])
	case "fit":
		return c.fit(numbers[0], numbers[1:])
	}
	k := numbers[0]
	if k >= len(c.line.Blocks) {
		return "no"
	}
	return fmt.Sprint(busyOf(c.paths, k))
}

func newCabin() *cabin {
	return &cabin{line: startOf(1, 0)}
}

func outputOf(script string) string {
	if len(script) > 500 {
		return "too long\n"
	}
	c := newCabin()
	output := ""
	lines := cut(script, '\n')
	for _, line := range lines[:len(lines)-1] {
		output += c.answer(line) + "\n"
	}
	return output + fmt.Sprintf("trains %d paths %d\n", len(c.line.Trains), len(c.paths))
}

func checkScript(t *testing.T, script string) {
	t.Helper()
	if output, want := impl.Execute(script), outputOf(script); output != want {
		t.Fatalf("Execute(%q) = %q, not %q", script, output, want)
	}
}

// body returns an output without its last line.
func body(output string) string {
	lines := strings.SplitAfter(output, "\n")
	return strings.Join(lines[:len(lines)-2], "")
}

// lastLine returns the last line of an output.
func lastLine(output string) string {
	return strings.TrimPrefix(output, body(output))
}

// digits writes a number, sometimes with zeros ahead, and rarely with more
// digits than a number has.
func digits(random *rand.Rand, n int) string {
	switch random.IntN(20) {
	case 0:
		return fmt.Sprintf("%04d", n)
	case 1:
		return fmt.Sprintf("%02d", n)
	case 2:
		return fmt.Sprintf("%05d", n)
	}
	return fmt.Sprint(n)
}

// someCommand returns a random line, most often one that can be done.
func (c *cabin) someCommand(random *rand.Rand) string {
	n := len(c.line.Blocks)
	some := func(below int) string { return digits(random, random.IntN(below)) }
	switch random.IntN(24) {
	case 0:
		return "line " + some(7) + " " + some(7)
	case 1, 2, 3:
		return "wait " + some([]int{4, 40, 2002}[random.IntN(3)])
	case 4:
		return "finish"
	case 5:
		return "where"
	case 6:
		return "next"
	case 7, 8:
		return "book " + some(n+1)
	case 9, 10, 11, 12:
		text := "fit " + some([]int{20, 2002}[random.IntN(2)])
		for range n {
			text += " " + some([]int{9, 102}[random.IntN(2)])
		}
		return text
	case 13, 14:
		return "busy " + some(n+1)
	case 15:
		return []string{"", " ", "zzz", "where ", " where", "line 1", "line 1 1 1", "do 0", "fit 1", "wait", "wait x", "do x o", "Next", "book -1", "no", "ok"}[random.IntN(16)]
	case 16, 17:
		return "do " + some(n+1) + " " + letters[random.IntN(7)]
	}
	can := movesOf(c.line)
	m := can[random.IntN(len(can))]
	return "do " + digits(random, m.Section) + " " + m.Letter
}

// someScript returns random complete lines of at most some bytes.
func someScript(random *rand.Rand, most int) string {
	c := newCabin()
	script := fmt.Sprintf("line %d %d\n", 1+random.IntN(5), random.IntN(6))
	if random.IntN(4) == 0 {
		script = ""
	}
	c.answer(strings.TrimSuffix(script, "\n"))
	for {
		line := c.someCommand(random)
		if len(script)+len(line)+1 > most {
			return script
		}
		c.answer(line)
		script += line + "\n"
	}
}

// someScripts returns random scripts, each of complete lines, of all lengths
// up to some bytes.
func someScripts(many int, most int) []string {
	random := rand.New(rand.NewPCG(9, uint64(most)))
	scripts := []string{"", "\n", "where\n", "finish\n", "line 5 5\n"}
	for range many {
		scripts = append(scripts, someScript(random, random.IntN(most+1)), someScript(random, most))
	}
	return scripts
}
