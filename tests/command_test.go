package tests

import (
	"fmt"
	"math/rand/v2"
	"slices"
	"strings"
	"testing"

	"loop.example/blockboxes/impl"
)

func TestPromise98(t *testing.T) {
	if output := impl.Execute(""); output != "trains 0 paths 0\n" {
		t.Errorf("Execute of an empty script = %q", output)
	}
	for _, script := range someScripts(60, 500) {
		output := impl.Execute(script)
		if output == "" || output != outputOf(script) {
			t.Fatalf("Execute(%q) = %q", script, output)
		}
		room := 500 - len(script)
		tails := []string{"", " ", "x", "where", "next", "line 3 3", "\x00", "\r", "\xff", strings.Repeat("where ", 90), strings.Repeat("\v", 500)}
		for _, tail := range tails {
			tail = tail[:min(len(tail), room)]
			if with := impl.Execute(script + tail); with != output {
				t.Fatalf("Execute(%q) = %q, but without %q it is %q", script+tail, with, tail, output)
			}
		}
	}
}

func TestPromise99(t *testing.T) {
	for _, script := range someScripts(200, 488) {
		output := impl.Execute(script)
		want := body(output) + "what\nno\n" + lastLine(output)
		if with := impl.Execute(script + "zzz\ndo 9 o\n"); with != want {
			t.Fatalf("Execute of %q, zzz and do 9 o = %q", script, with)
		}
	}
}

func TestPromise100(t *testing.T) {
	for _, script := range someScripts(200, 488) {
		output := impl.Execute(script)
		with := impl.Execute(script + "next\nnext\n")
		added, ok := strings.CutPrefix(strings.TrimSuffix(with, lastLine(output)), body(output))
		lines := strings.Split(added, "\n")
		if !ok || len(lines) != 3 || lines[0] != lines[1] || lines[2] != "" || lines[0] == "" {
			t.Fatalf("Execute of %q and two lines next = %q", script, with)
		}
	}
}

func TestPromise101(t *testing.T) {
	for n := 1; n <= 5; n++ {
		for trains := range 6 {
			offers := make([]string, n)
			for k := range n {
				offers[k] = fmt.Sprint(k, "o")
			}
			where, moves := repeat(2*n, trains), fmt.Sprint("moves ", 5*n*trains)
			if 5*n*trains > 100 {
				where, moves = repeat(0, trains), "no"
			}
			want := "ok\n" + moves + "\n" + plain(where) + "\n" + strings.Join(offers, " ") + fmt.Sprintf("\ntrains %d paths 0\n", trains)
			for _, line := range []string{"line %d %d", "line %02d %03d", "line %04d %04d"} {
				script := fmt.Sprintf(line, n, trains) + "\nfinish\nwhere\nnext\n"
				if output := impl.Execute(script); output != want {
					t.Errorf("Execute(%q) = %q", script, output)
				}
			}
		}
	}
}

func TestExecuteNoLine(t *testing.T) {
	wrong := []string{"0 0", "6 0", "0 5", "1 6", "6 5", "5 6", "9999 1", "1 9999", "x 1", "1 x", " 1", "1 ", "-1 1", "1 -1", "+1 1", "00001 1", "1 00001", "257 0", "1 256", "1.0 1", "0x1 0", "1_0 0", "1 1\r"}
	for _, words := range wrong {
		script := "line 2 3\ndo 0 o\nwait 7\nfit 5 4 3\nline " + words + "\ndo 1 o\nwhere\nnext\nbook 0\nbook 1\nbusy 1\n"
		want := "ok\nok\nok\n5 9\nno\nok\n0 0 0\n0a 0r 1a 1r\n0o\n7o\n3\ntrains 3 paths 1\n"
		if output := impl.Execute(script); output != want {
			t.Errorf("Execute(%q) = %q", script, output)
		}
	}
}

func TestPromise102(t *testing.T) {
	for _, text := range legalTexts(12) {
		if strings.Count(text, "e") > 1 {
			continue
		}
		script, later := "line 1 1\nwait 2\n", "line 1 1\n"
		notes, laterNotes := []string{}, []string{}
		for i, letter := range text {
			do := "do 0 " + string(letter) + "\n"
			script, later = script+do, later+"wait 2\n"+do
			notes, laterNotes = append(notes, "2"+string(letter)), append(laterNotes, fmt.Sprint(2*i+2)+string(letter))
		}
		last := "\ntrains 1 paths 0\n"
		if output := impl.Execute(script + "book 0\n"); output != strings.Repeat("ok\n", 2+len(text))+strings.Join(notes, " ")+last {
			t.Fatalf("Execute(%q) = %q", script+"book 0\n", output)
		}
		if output := impl.Execute(later + "book 0\n"); output != strings.Repeat("ok\n", 1+2*len(text))+strings.Join(laterNotes, " ")+last {
			t.Fatalf("Execute(%q) = %q", later+"book 0\n", output)
		}
	}
}

func TestExecuteNoDo(t *testing.T) {
	for _, word := range noEvents() {
		if strings.ContainsAny(word, " \n") || len(word) > 100 {
			continue
		}
		checkScript(t, "line 2 1\ndo 0 "+word+"\ndo 1 o\ndo 0 "+word+"\nbook 0\nbook 1\nnext\n")
	}
	for _, section := range []string{"2", "5", "9", "9999", "", "x", "-0", "+0", "00000", "0x0", "o"} {
		script := "line 2 1\ndo 1 o\ndo " + section + " o\nnext\nwhere\nbook 1\n"
		want := "ok\nok\nno\n0o 1a 1r\n0\n0o\ntrains 1 paths 0\n"
		if output := impl.Execute(script); output != want {
			t.Errorf("Execute(%q) = %q", script, output)
		}
	}
}

// fitScript returns a line with a time and runs.
func fitScript(start int, runs []int) string {
	return fmt.Sprintf("fit %d %s\n", start, plain(runs))
}

func TestPromise103(t *testing.T) {
	lists := append(allLists(5, 3), []int{100}, []int{1, 100}, []int{100, 1}, repeat(100, 5), repeat(1, 5))
	for _, runs := range lists {
		for _, start := range []int{0, 1, 10, 999, 2000 - sum(runs), 2001 - sum(runs), 2000} {
			path, ok := impl.PathRun(start, runs)
			script := fmt.Sprintf("line %d 0\n", len(runs)) + fitScript(start, runs) + "busy 0\n"
			want := "ok\n" + plain(path.In) + fmt.Sprintf("\n%d\ntrains 0 paths 1\n", runs[0])
			if !ok {
				want = "ok\nno\n0\ntrains 0 paths 0\n"
			}
			if output := impl.Execute(script); output != want {
				t.Fatalf("Execute(%q) = %q", script, output)
			}
		}
	}
}

func TestExecuteNoFit(t *testing.T) {
	check := func(line string, answer string) {
		script := "line 2 0\nfit 5 7 3\n" + line + "\nbusy 0\nbusy 1\n"
		want := "ok\n5 12\n" + answer + "\n7\n3\ntrains 0 paths 1\n"
		if output := impl.Execute(script); output != want {
			t.Errorf("Execute(%q) = %q", script, output)
		}
	}
	for _, words := range []string{"5 0 3", "5 3 0", "5 101 3", "5 3 101", "2000 1 1", "1999 1 1", "1900 100 1", "2001 1 1", "9999 1 1", "x 1 1", "5 x 1", "5 1 x", " 1 1", "5  1", "5 1 ", "-1 1 1", "00005 1 1", "5 00001 1", "+5 1 1", "5 1 +1"} {
		check("fit "+words, "no")
	}
	for _, words := range []string{"", " ", " 5", " 5 1", " 5 1 1 1", " 5 1 1 ", "  5 1 1", " x", " 5 1 1 1 1 1 1"} {
		check("fit"+words, "what")
	}
}

func TestExecuteLastLine(t *testing.T) {
	random := rand.New(rand.NewPCG(98, 1))
	for range 300 {
		script := someScript(random, 500)
		end := random.IntN(len(script) + 1)
		checkScript(t, script[:end])
		complete := script[:strings.LastIndex(script[:end], "\n")+1]
		if impl.Execute(script[:end]) != impl.Execute(complete) {
			t.Fatalf("Execute(%q) = %q", script[:end], impl.Execute(script[:end]))
		}
	}
}

func TestExecuteLength(t *testing.T) {
	for _, full := range []string{strings.Repeat("\n", 501), strings.Repeat("next\n", 100) + "\n", strings.Repeat("x", 501), strings.Repeat(" ", 500) + "\n", strings.Repeat("where\n", 83) + "ab\n", strings.Repeat("é", 250) + "\n"} {
		if len(full) != 501 {
			t.Fatalf("%q has %d bytes", full, len(full))
		}
		checkScript(t, full[:499])
		checkScript(t, full[:500])
		checkScript(t, full[1:])
		if output := impl.Execute(full[:500]); !strings.HasSuffix(output, "trains 0 paths 0\n") {
			t.Errorf("Execute of the 500 bytes %q = %q", full[:500], output)
		}
		for _, long := range []string{full, full + "\n", strings.Repeat(full, 2), strings.Repeat(full, 10000)} {
			if output := impl.Execute(long); output != "too long\n" {
				t.Errorf("Execute of %d bytes = %q", len(long), output)
			}
		}
	}
	words := slices.Repeat([]string{"é\n"}, 167)
	if output := impl.Execute(strings.Join(words, "")); output != "too long\n" {
		t.Errorf("Execute of 334 characters of 501 bytes = %q", output)
	}
}
