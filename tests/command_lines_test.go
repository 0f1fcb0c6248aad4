package tests

import (
	"fmt"
	"math/rand/v2"
	"strings"
	"testing"

	"loop.example/blockboxes/impl"
)

func TestExecuteKnown(t *testing.T) {
	for _, c := range []struct{ script, want string }{
		{"where\n", "\ntrains 0 paths 0\n"},
		{"book 0\n", "\ntrains 0 paths 0\n"},
		{"next\n", "0o\ntrains 0 paths 0\n"},
		{"busy 0\n", "0\ntrains 0 paths 0\n"},
		{"finish\n", "moves 0\ntrains 0 paths 0\n"},
		{"\n", "what\ntrains 0 paths 0\n"},
		{"\n\n", "what\nwhat\ntrains 0 paths 0\n"},
		{" \n", "what\ntrains 0 paths 0\n"},
		{"where\n\nwhere\n", "\nwhat\n\ntrains 0 paths 0\n"},
		{"where \n", "what\ntrains 0 paths 0\n"},
		{"where\r\n", "what\ntrains 0 paths 0\n"},
		{"where\t\n", "what\ntrains 0 paths 0\n"},
		{"book 0\nbook 1\nbook 0 \n", "\nno\nwhat\ntrains 0 paths 0\n"},
		{"line 2 0\nwhere\nbook 0\nbook 1\nbook 2\n", "ok\n\n\n\nno\ntrains 0 paths 0\n"},
		{"line 3 2\nwhere\nnext\n", "ok\n0 0\n0o 1o 2o\ntrains 2 paths 0\n"},
		{"do 0 o\ndo 0 a\ndo 0 e\nnext\n", "ok\nok\nno\n0c\ntrains 0 paths 0\n"},
		{"line 1 1\ndo 0 o\ndo 0 a\nnext\ndo 0 e\nwhere\nnext\ndo 0 l\nwhere\nnext\n", "ok\nok\nok\n0c 0e\nok\n1\n0l\nok\n2\n0f\ntrains 1 paths 0\n"},
		{"line 2 2\ndo 0 o\nwait 3\nfinish\nwhere\nbook 0\nbook 1\n", "ok\nok\nok\nmoves 19\n4 4\n0o 3a 3e 3l 3f 3o 3a 3e 3l 3f\n3o 3a 3e 3l 3f 3o 3a 3e 3l 3f\ntrains 2 paths 0\n"},
		{"wait 5\ndo 0 o\nline 1 0\ndo 0 o\nbook 0\n", "ok\nok\nok\nok\n0o\ntrains 0 paths 0\n"},
		{"fit 5 7\nfit 5 7\nfit 0 5\nbusy 0\nline 1 0\nbusy 0\nfit 5 7\n", "5\n12\n0\n19\nok\n0\n5\ntrains 0 paths 1\n"},
		{"line 3 0\nfit 1 2 3 4\nfit 1 2 3 4\nbusy 0\nbusy 1\nbusy 2\nbusy 3\n", "ok\n1 3 6\n3 6 10\n4\n6\n8\nno\ntrains 0 paths 2\n"},
		{"line 2 1\ndo 1 o\ndo 1 a\ndo 1 e\nwhere\n", "ok\nok\nok\nno\n0\ntrains 1 paths 0\n"},
	} {
		if output := impl.Execute(c.script); output != c.want {
			t.Errorf("Execute(%q) = %q, not %q", c.script, output, c.want)
		}
	}
}

func TestExecuteNumbers(t *testing.T) {
	for word, n := range map[string]int{"0": 0, "00": 0, "000": 0, "0000": 0, "7": 7, "07": 7, "0010": 10, "012": 12, "999": 999, "2000": 2000, "1999": 1999} {
		want := fmt.Sprintf("ok\nok\n%do\ntrains 0 paths 0\n", n)
		if output := impl.Execute("wait " + word + "\ndo 0 o\nbook 0\n"); output != want {
			t.Errorf("a wait of %q gives %q", word, output)
		}
	}
	for _, word := range []string{"", "00000", "00007", "10000", "02000", "2001", "9999", "-0", "-1", "+1", "1.", "1e1", "0x1", "1_0", "o", "٣", "１", "1\r", "\t1", "1\x00", "\x00", "\xff", "99999999999999999999", "18446744073709551617", strings.Repeat("0", 100)} {
		want := "no\nok\n0o\ntrains 0 paths 0\n"
		if output := impl.Execute("wait " + word + "\ndo 0 o\nbook 0\n"); output != want {
			t.Errorf("a wait of %q gives %q", word, output)
		}
	}
	for _, word := range []string{"", "x", "00000", "-0", "1", "9999"} {
		want := "no\nno\nno\ntrains 0 paths 0\n"
		if output := impl.Execute("book " + word + "\nbusy " + word + "\ndo " + word + " o\n"); output != want {
			t.Errorf("the section %q gives %q", word, output)
		}
	}
}

func TestExecuteTime(t *testing.T) {
	for _, c := range []struct {
		waits, answers string
		time           int
	}{
		{"wait 2000\n", "ok\n", 2000},
		{"wait 2001\n", "no\n", 0},
		{"wait 1999\nwait 1\n", "ok\nok\n", 2000},
		{"wait 1999\nwait 2\n", "ok\nno\n", 1999},
		{"wait 2000\nwait 1\n", "ok\nno\n", 2000},
		{"wait 2000\nwait 0\n", "ok\nok\n", 2000},
		{"wait 1000\nwait 1001\nwait 1000\n", "ok\nno\nok\n", 2000},
		{"wait 2000\nline 1 0\nwait 2000\n", "ok\nok\nok\n", 2000},
		{"wait 2000\nline 1 6\nwait 1\n", "ok\nno\nno\n", 2000},
	} {
		output := impl.Execute(c.waits + "do 0 o\nbook 0\n")
		if want := c.answers + fmt.Sprintf("ok\n%do\ntrains 0 paths 0\n", c.time); output != want {
			t.Errorf("after %q the output is %q", c.waits, output)
		}
	}
}

// shuttle returns lines that offer a train and refuse it, so often.
func shuttle(section int, times int) string {
	return strings.Repeat(fmt.Sprintf("do %d o\ndo %d r\n", section, section), times)
}

func TestExecuteMovesMost(t *testing.T) {
	for _, c := range []struct{ script, want string }{
		{"line 4 5\nfinish\n", "ok\nmoves 100\n"},
		{"line 4 5\nfinish\ndo 0 o\nwhere\nnext\nfinish\n", "ok\nmoves 100\nno\n8 8 8 8 8\n0o 1o 2o 3o\nmoves 0\n"},
		{"line 5 4\nfinish\ndo 4 o\ndo 9 o\n", "ok\nmoves 100\nno\nno\n"},
		{"line 5 4\ndo 0 o\nfinish\ndo 4 o\n", "ok\nok\nmoves 99\nno\n"},
		{"line 5 4\ndo 0 o\ndo 0 r\nfinish\ndo 0 o\nwhere\nnext\n", "ok\nok\nok\nno\nok\n0 0 0 0\n0a 0r 1o 2o 3o 4o\n"},
		{"line 5 5\nfinish\nwhere\ndo 0 o\nbook 0\nfinish\n", "ok\nno\n0 0 0 0 0\nok\n0o\nno\n"},
		{"line 4 5\nfinish\ndo 0 o\nline 1 1\ndo 0 o\nfinish\n", "ok\nmoves 100\nno\nok\nok\nmoves 4\n"},
		{"line 4 5\nfinish\nline 6 5\ndo 0 o\nwait 1\nfit 0 1 1 1 1\n", "ok\nmoves 100\nno\nno\nok\n0 1 2 3\n"},
		{"line 3 5\n" + shuttle(2, 11) + "do 0 o\ndo 0 a\ndo 0 c\nfinish\ndo 0 o\n", "ok\n" + strings.Repeat("ok\n", 25) + "moves 75\nno\n"},
		{"line 3 5\n" + shuttle(2, 13) + "finish\nwhere\ndo 0 o\n", "ok\n" + strings.Repeat("ok\n", 26) + "no\n0 0 0 0 0\nok\n"},
		{"line 3 5\nfinish\n" + shuttle(2, 12) + "do 1 o\ndo 1 r\nfinish\nnext\n", "ok\nmoves 75\n" + strings.Repeat("ok\n", 25) + "no\nno\n0o 1a 1r 2o\n"},
		{"line 3 5\nfinish\n" + shuttle(2, 12) + "do 1 a\ndo 7 o\ndo 1 o\ndo 1 r\n", "ok\nmoves 75\n" + strings.Repeat("ok\n", 24) + "no\nno\nok\nno\n"},
	} {
		if output := impl.Execute(c.script); body(output) != c.want {
			t.Errorf("Execute(%q) = %q", c.script, output)
		}
		checkScript(t, c.script)
	}
}

func TestExecuteNotesMost(t *testing.T) {
	full := "line 2 5\nfinish\nwait 12\n" + shuttle(1, 2) + "do 1 o\n"
	oks := "ok\nmoves 50\nok\n" + strings.Repeat("ok\n", 5)
	notes := strings.Repeat("0o 0a 0e 0l 0f ", 5)
	if output := impl.Execute(full + "book 1\n"); output != oks+notes+"12o 12r 12o 12r 12o\ntrains 5 paths 0\n" {
		t.Errorf("with 30 notes of the section, the output is %q", output)
	}
	if output := impl.Execute(full + "do 1 r\nbook 1\nbook 0\nbook 2\nnext\n"); output != oks+"ok\nno\n"+strings.TrimSuffix(notes, " ")+"\nno\n0o 1o\ntrains 5 paths 0\n" {
		t.Errorf("with 31 notes of the section, the output is %q", output)
	}
}

func TestExecutePathsMost(t *testing.T) {
	eight := strings.Repeat("fit 0 100\n", 8)
	ins := "0\n100\n200\n300\n400\n500\n600\n700\n"
	for _, c := range []struct{ script, want string }{
		{eight, ins + "trains 0 paths 8\n"},
		{eight + "fit 0 1\nbusy 0\n", ins + "no\n800\ntrains 0 paths 8\n"},
		{eight + "line 1 6\nfit 1999 1\n", ins + "no\nno\ntrains 0 paths 8\n"},
		{eight + "line 1 5\nfit 1999 1\nfit 1998 2\nfit 1998 1\n", ins + "ok\n1999\nno\n1998\ntrains 5 paths 2\n"},
	} {
		if output := impl.Execute(c.script); output != c.want {
			t.Errorf("Execute(%q) = %q", c.script, output)
		}
	}
}

// linesOf returns all lines of at most so many words out of a list.
func linesOf(most int, words []string) []string {
	lines, longest := []string{}, words
	for range most {
		lines = append(lines, longest...)
		var longer []string
		for _, line := range longest {
			for _, word := range words {
				longer = append(longer, line+" "+word)
			}
		}
		longest = longer
	}
	return lines
}

// TestExecuteEachLine tries all lines of a few words, behind lines that
// change something.
func TestExecuteEachLine(t *testing.T) {
	lines := linesOf(4, []string{"", "line", "wait", "do", "finish", "where", "next", "book", "fit", "busy", "0", "1", "o", "zz"})
	for _, start := range []string{"", "line 1 1\ndo 0 o\nwait 3\nfit 0 4\n", "line 2 0\nwait 1999\ndo 0 o\nfit 0 1 1\n"} {
		for _, line := range lines {
			checkScript(t, start+line+"\nwhere\nnext\nbook 0\nbusy 0\nwait 1\n")
		}
	}
}

func TestExecuteRandom(t *testing.T) {
	for _, script := range someScripts(700, 500) {
		checkScript(t, script)
	}
}

// TestExecuteEachByte puts each byte in the place of each one of a script, and
// between all of them, and leaves each one out.
func TestExecuteEachByte(t *testing.T) {
	script := "line 2 1\ndo 0 o\nwait 3\nfinish\nwhere\nnext\nbook 0\nfit 5 7 1\nbusy 1\n"
	for i := range script {
		checkScript(t, script[:i]+script[i+1:])
		for other := range 256 {
			letter := string([]byte{byte(other)})
			checkScript(t, script[:i]+letter+script[i+1:])
			checkScript(t, script[:i]+letter+script[i:])
		}
	}
}

func TestExecuteAnyBytes(t *testing.T) {
	random := rand.New(rand.NewPCG(9, 103))
	for _, alphabet := range []string{"\n", " \n", "o \n01", "where\n ", "book 01\n", "do 01oaelfrc\n", "\x00\xff\n \r\té", "fit 0123\n", "abcdefghiklnorstwxy 0123456789\n"} {
		for range 400 {
			script := make([]byte, random.IntN(510))
			for i := range script {
				script[i] = alphabet[random.IntN(len(alphabet))]
			}
			checkScript(t, string(script))
		}
	}
}

// TestExecuteAgain looks for anything that one call leaves behind for the next.
func TestExecuteAgain(t *testing.T) {
	scripts := someScripts(100, 500)
	for i, script := range scripts {
		first := impl.Execute(script)
		impl.Execute(scripts[len(scripts)-1-i])
		if again := impl.Execute(script); again != first {
			t.Fatalf("Execute(%q) = %q, and then %q", script, first, again)
		}
	}
}
