package console_test

import (
	"fmt"
	"slices"
	"strings"
	"sync"
	"testing"

	"caisson/api"
	"caisson/console"
)

// tells holds what a script tells.
func tells(t *testing.T, script string, want string) {
	t.Helper()
	if got, e := console.Run(script); got != want || e != api.OK {
		t.Errorf("P25.1: %q: %q, %d, want %q", script, got, e, want)
	}
}

// each holds what lines tell, each alone and all in one script.
func each(t *testing.T, lines [][2]string) {
	t.Helper()
	script, want := "", ""
	for _, l := range lines {
		tells(t, l[0], l[1]+"\n")
		script, want = script+l[0]+"\n", want+l[1]+"\n"
	}
	tells(t, script, want)
}

func TestSplit(t *testing.T) {
	each(t, [][2]string{
		{"split 0 1", "0 0 1"},
		{"split 70 5", "1 6 5"},
		{"split 128 64", "2 0 64"},
		{"split 63 2", "0 63 1 1 0 1"},
		{"split 100 100", "1 36 28 2 0 64 3 0 8"},
		{"split 4095 1", "63 63 1"},
		{"split 0 0", ""},
		{"split 70 0", ""},
		{"split 4096 0", ""},
		{"split 4096 1", "error 100"},
		{"split 4097 0", "error 100"},
		{"split 4095 2", "error 100"},
		{"split 0 4097", "error 100"},
		{"split -1 1", "error 100"},
		{"split 1 -1", "error 100"},
		{"split 999999 999999", "error 100"},
		{"split -999999 -999999", "error 100"},
	})
	whole := "0 0 64"
	for f := 1; f < 64; f++ {
		whole += fmt.Sprintf(" %d 0 64", f)
	}
	tells(t, "split 0 4096", whole+"\n")
}

func TestEntry(t *testing.T) {
	each(t, [][2]string{
		{"entry 0 0", "0"},
		{"entry 0 1", "3"},
		{"entry 0 2", "5"},
		{"entry 0 3", "7"},
		{"entry 10 3", "40967"},
		{"entry 63 1", "258051"},
		{"entry 63 3", "258055"},
		{"entry 1 0", "error 400"},
		{"entry 0 4", "error 400"},
		{"entry 0 -1", "error 400"},
		{"entry 64 1", "error 400"},
		{"entry -1 3", "error 400"},
		{"entry 3 63", "error 400"},
		{"entry 999999 3", "error 400"},
	})
}

func TestWord(t *testing.T) {
	each(t, [][2]string{
		{"word 0", "0 0"},
		{"word 3", "0 1"},
		{"word 5", "0 2"},
		{"word 7", "0 3"},
		{"word 40967", "10 3"},
		{"word 258055", "63 3"},
		{"word 1", "error 400"},
		{"word 2", "error 400"},
		{"word 9", "error 400"},
		{"word 4096", "error 400"},
		{"word 262147", "error 400"},
		{"word -1", "error 400"},
		{"word 999999", "error 400"},
		{"word -999999", "error 400"},
	})
}

func TestOver(t *testing.T) {
	each(t, [][2]string{
		{"over 0 0 0 0", "yes"},
		{"over 3 15 0 0", "yes"},
		{"over 3 15 3 15", "yes"},
		{"over 2 5 1 4", "yes"},
		{"over 2 5 2 5", "yes"},
		{"over 2 5 3 5", "no"},
		{"over 2 5 1 2", "no"},
		{"over 2 4 1 5", "no"},
		{"over 0 15 1 0", "no"},
		{"over 3 0 0 1", "no"},
		{"over 4 0 0 0", "no"},
		{"over 0 16 0 0", "no"},
		{"over -1 0 -1 0", "no"},
		{"over 0 -1 0 0", "no"},
		{"over 3 15 -1 0", "no"},
		{"over 3 15 0 -1", "no"},
		{"over 4 16 4 16", "no"},
		{"over 999999 999999 0 0", "no"},
	})
}

func TestNext(t *testing.T) {
	each(t, [][2]string{
		{"next 10 2 3 4 0", "4"},
		{"next 10 2 3 4 4", "4"},
		{"next 10 2 3 4 5", "14"},
		{"next 1 0 1 0 0", "0"},
		{"next 1 0 1 0 999999", "999999"},
		{"next 64 0 64 63 64", "127"},
		{"next 64 62 1 62 999999", "1000062"},
		{"next 64 63 1 63 999999", "999999"},
		{"next 64 63 1 63 -0", "63"},
		{"next 0 0 1 0 0", "error 1000"},
		{"next 65 0 1 0 0", "error 1000"},
		{"next -1 0 1 0 0", "error 1000"},
		{"next 10 -1 2 0 0", "error 1000"},
		{"next 10 2 0 2 0", "error 1000"},
		{"next 10 2 -1 2 0", "error 1000"},
		{"next 10 8 3 9 0", "error 1000"},
		{"next 10 10 1 10 0", "error 1000"},
		{"next 10 2 3 1 0", "error 1000"},
		{"next 10 2 3 5 0", "error 1000"},
		{"next 10 2 3 4 -1", "error 1000"},
		{"next 999999 999999 999999 999999 999999", "error 1000"},
	})
}

func TestLinesThatAreNoCommand(t *testing.T) {
	each(t, [][2]string{
		{"split", "error 2500"}, {"split 5", "error 2500"}, {"split 5 5 5", "error 2500"}, {"split 5 5 #", "error 2500"}, {"split #", "error 2500"},
		{"entry", "error 2500"}, {"entry 5", "error 2500"}, {"entry 5 3 0", "error 2500"}, {"entry 5 x", "error 2500"},
		{"word", "error 2500"}, {"word 0 0", "error 2500"}, {"word word", "error 2500"}, {"word word 0", "error 2500"},
		{"over", "error 2500"}, {"over 2 3 1", "error 2500"}, {"over 2 3 1 1 1", "error 2500"}, {"over 9 9 9 yes", "error 2500"},
		{"next", "error 2500"}, {"next 10 2 3 4", "error 2500"}, {"next 10 2 3 4 0 0", "error 2500"}, {"next 0 0 0 0 x", "error 2500"},
		{"frob", "error 2500"}, {"frob 1 1", "error 2500"}, {"0", "error 2500"}, {"5 3", "error 2500"}, {"error 2500", "error 2500"},
		{"Split 1 1", "error 2500"}, {"SPLIT 1 1", "error 2500"}, {"splits 1 1", "error 2500"}, {"spli 1 1", "error 2500"}, {"split1 1", "error 2500"}, {"xword 0", "error 2500"},
		{"1 split 1", "error 2500"}, {"2 word 0", "error 2500"},
		{"\\# 1", "error 2500"}, {"//", "error 2500"}, {"x#", "error 2500"},
		{"-", "error 2500"}, {"\x00", "error 2500"}, {"\xff", "error 2500"}, {"é", "error 2500"},
	})
}

func TestLinesThatSayNothing(t *testing.T) {
	silent := []string{"", " ", "\t", " \t \t\t  ", "#", "##", "# split 1 1", "#split 1 1", " \t#", "\t # word 0", "#\x00\xff", "#\r", "#word 0\tword 0", strings.Repeat(" ", 1000)}
	for _, a := range silent {
		tells(t, a, "")
		tells(t, a+"\n", "")
		for _, b := range silent {
			tells(t, a+"\n"+b, "")
			tells(t, a+"\nword 3\n"+b+"\nword 1\n", "0 1\nerror 400\n")
			tells(t, "word 3\n"+a+"\n"+b+"\nword 1", "0 1\nerror 400\n")
		}
	}
	tells(t, strings.Repeat("\n", 5000), "")
}

func TestWhereALineEnds(t *testing.T) {
	for _, c := range [][2]string{
		{"word 3", "0 1\n"},
		{"word 3\n", "0 1\n"},
		{"\nword 3", "0 1\n"},
		{"\n\nword 3\n\n", "0 1\n"},
		{"word\n3", "error 2500\nerror 2500\n"},
		{"word 3\n\nword 5", "0 1\n0 2\n"},
		{"word 3\rword 5", "error 2500\n"},
		{"word 3\r\nword 5\r\n", "error 2500\nerror 2500\n"},
		{"\r\n", "error 2500\n"},
		{"word 3\u2028word 5", "error 2500\n"},
		{"word 3\u0085word 5", "error 2500\n"},
		{"# word 3\nword 5", "0 2\n"},
		{"word 3\n#", "0 1\n"},
		{"split 0 0", "\n"},
		{"split 0 0\nsplit 0 0\n", "\n\n"},
		{"split 0 0\n\nword 3", "\n0 1\n"},
	} {
		tells(t, c[0], c[1])
	}
}

func TestBlanks(t *testing.T) {
	for _, line := range []string{"word 3", "word\t3", "word  3", " word 3", "\tword 3", "word 3 ", "word 3\t", "\t \tword \t\t 3 \t "} {
		tells(t, line, "0 1\n")
	}
	tells(t, " split\t63  2 ", "0 63 1 1 0 1\n")
	for b := range 256 {
		s, between, ahead, behind := string([]byte{byte(b)}), "error 2500\n", "error 2500\n", "error 2500\n"
		switch {
		case b == ' ' || b == '\t':
			between, ahead, behind = "0 1\n", "0 1\n", "0 1\n"
		case b == '\n':
			between, ahead, behind = "error 2500\nerror 2500\n", "0 1\n", "0 1\n"
		case b == '#':
			ahead = ""
		case b >= '0' && b <= '9':
			// One digit more, and of 30 to 39 none is a word of an entry.
			behind = "error 400\n"
		}
		tells(t, "word"+s+"3", between)
		tells(t, s+"word 3", ahead)
		tells(t, "word 3"+s, behind)
	}
	for _, r := range []rune{0xa0, 0x85, 0x1680, 0x2003, 0x2028, 0x3000, 0xfeff, 0xfffd} {
		tells(t, "word"+string(r)+"3", "error 2500\n")
		tells(t, string(r)+"word 3", "error 2500\n")
		tells(t, "word 3"+string(r), "error 2500\n")
	}
}

func TestNumbers(t *testing.T) {
	each(t, [][2]string{
		{"word 000000", "0 0"}, {"word 000003", "0 1"}, {"word 03", "0 1"}, {"word -0", "0 0"}, {"word -000000", "0 0"},
		{"word 258053", "63 2"}, {"word -258053", "error 400"}, {"word -3", "error 400"}, {"word -000003", "error 400"},
		{"split -000000 000001", "0 0 1"},
		{"word 0000000", "error 2500"}, {"word 0000003", "error 2500"}, {"word -0000000", "error 2500"}, {"word 1000000", "error 2500"}, {"word -1000000", "error 2500"},
		{"word -", "error 2500"}, {"word --", "error 2500"}, {"word --3", "error 2500"}, {"word 3-", "error 2500"}, {"word 3-3", "error 2500"}, {"word - 3", "error 2500"}, {"word -\t3", "error 2500"},
		{"word +3", "error 2500"}, {"word +", "error 2500"}, {"word -+3", "error 2500"}, {"word +-3", "error 2500"},
		{"word 3.0", "error 2500"}, {"word 3,", "error 2500"}, {"word 1_0", "error 2500"}, {"word 1e1", "error 2500"}, {"word 0x3", "error 2500"}, {"word 0b1", "error 2500"}, {"word 0o7", "error 2500"}, {"word a", "error 2500"}, {"word '3'", "error 2500"},
		{"word 18446744073709551619", "error 2500"}, {"word -9223372036854775808", "error 2500"}, {"word " + strings.Repeat("9", 1000), "error 2500"}, {"word " + strings.Repeat("-", 1000), "error 2500"},
		{"word \u0663", "error 2500"}, {"word \uff13", "error 2500"}, {"word \u22123", "error 2500"}, {"word 3\x00", "error 2500"},
	})
	for b := range 256 {
		if b >= '0' && b <= '9' || b == '\n' {
			continue
		}
		s, want := string([]byte{byte(b)}), "error 2500\n"
		tells(t, "word 4"+s+"0967", want)
		if b == ' ' || b == '\t' {
			want = "10 3\n"
		}
		tells(t, "word 40967"+s, want)
		if b == '-' {
			want = "error 400\n"
		}
		tells(t, "word "+s+"40967", want)
	}
}

func TestNumbersOfEachLength(t *testing.T) {
	for length := range 12 {
		for _, digit := range []string{"0", "1", "9"} {
			word := strings.Repeat(digit, length)
			want, below := "error 100\n", "error 100\n"
			if length < 1 || length > api.NumberLength {
				want, below = "error 2500\n", "error 2500\n"
			} else if digit == "0" {
				want, below = "\n", "\n"
			} else if length <= 3 || length == 4 && digit == "1" {
				want = "\n"
			}
			tells(t, "split "+word+" 0", want)
			tells(t, "split -"+word+" 0", below)
		}
	}
}

func TestLongScripts(t *testing.T) {
	fill := func(line string, n int) string {
		return strings.Repeat(line, n/len(line)+1)[:n]
	}
	for _, line := range []string{"#", "\n", " ", "word 3\n", "split 0 4096\n", "next 1 0 1 0 0\n", "\xff\n", "é"} {
		for _, n := range []int{api.MaxText - 1, api.MaxText} {
			script := fill(line, n)
			tells(t, script, plain(script))
		}
		for _, n := range []int{api.MaxText + 1, api.MaxText + 2, 2 * api.MaxText, 1 << 24} {
			if got, e := console.Run(fill(line, n)); got != "" || e != api.ErrConsoleLong {
				t.Errorf("P25.1: %d bytes of %q: %q, %d", n, line, got, e)
			}
		}
	}
	// Bytes count, and not runes.
	if got, e := console.Run("#" + strings.Repeat("é", api.MaxText/2)); got != "" || e != api.ErrConsoleLong {
		t.Errorf("P25.1: runes: %q, %d", got, e)
	}
	tells(t, strings.Repeat(" ", api.MaxText-6)+"word 3", "0 1\n")
	tells(t, "word 3"+strings.Repeat(" ", api.MaxText-6), "0 1\n")
	tells(t, "word"+strings.Repeat(" 3", api.MaxText/2-2), "error 2500\n")
	tells(t, strings.Repeat("word 3\n", 9362), strings.Repeat("0 1\n", 9362))
	tells(t, strings.Repeat("x\n", api.MaxText/2), strings.Repeat("error 2500\n", api.MaxText/2))
}

// numbers is a row of numbers.
type numbers uint64

// next is a number from 0 below n.
func (r *numbers) next(n int) int {
	*r = *r*6364136223846793005 + 1442695040888963407
	return int(uint64(*r) >> 33 % uint64(n))
}

// one is one of some texts.
func (r *numbers) one(of ...string) string {
	return of[r.next(len(of))]
}

// number is a word that is a number most often, and then a small one most often.
func (r *numbers) number() string {
	switch r.next(30) {
	case 0:
		return r.one("x", "-", "+1", "1234567", "#", "1-", "0x1", "\r", "\xff", "--1")
	case 1:
		return r.one("-1", "-0", "000001", "999999", "-999999", "4096", "4095", "1048575", "258055", "258053")
	case 2:
		return fmt.Sprint(r.next(4200))
	case 3:
		return fmt.Sprint(r.next(64)*4096 + r.next(10))
	}
	return fmt.Sprint(r.next(20) / (1 + r.next(8)))
}

// line is a line of a command, now and then of none.
func (r *numbers) line() string {
	words := []string{"split", "entry", "word", "over", "next"}
	counts := []int{2, 2, 1, 4, 5}
	i := r.next(len(words))
	word, count := words[i], counts[i]
	switch r.next(25) {
	case 0:
		count = r.next(7)
	case 1:
		word = r.one("#", "#split", "frob", "Word", "\xff", "word\r", "")
	case 2:
		return r.one("", " ", "\t", "# a word", "\r", "\x00")
	}
	s := r.one("", "", " ", "\t") + word
	for range count {
		s += r.one(" ", " ", "  ", "\t", " \t") + r.number()
	}
	return s + r.one("", "", "", " ", "\t ")
}

// lines are some lines.
func (r *numbers) lines(n int) []string {
	var row []string
	for range n {
		row = append(row, r.line())
	}
	return row
}

func TestManyScripts(t *testing.T) {
	r := numbers(251)
	came := map[string]int{}
	for range 1500 {
		script := strings.Join(r.lines(r.next(40)), "\n") + r.one("", "\n", "\n\n")
		want := plain(script)
		tells(t, script, want)
		for _, l := range strings.SplitAfter(want, "\n") {
			came[l]++
		}
	}
	for _, l := range []string{"yes\n", "no\n", "\n", "0\n", "0 0\n", "error 100\n", "error 400\n", "error 1000\n", "error 2500\n"} {
		if came[l] < 50 {
			t.Errorf("P25.1: %q was told only %d times", l, came[l])
		}
	}
}

func TestScriptsOfAnyBytes(t *testing.T) {
	r := numbers(252)
	const some = "word 03\t\n-#\r\x00\xff \n"
	for range 3000 {
		b := make([]byte, r.next(200))
		for i := range b {
			b[i] = some[r.next(len(some))]
		}
		tells(t, string(b), plain(string(b)))
		for i := range b {
			b[i] = byte(r.next(256))
		}
		tells(t, string(b), plain(string(b)))
	}
}

// TestAllSmallNumbers: each command's numbers over the edges of all of them.
func TestAllSmallNumbers(t *testing.T) {
	var lines []string
	add := func(words ...any) {
		lines = append(lines, strings.TrimSpace(fmt.Sprintln(words...)))
	}
	for _, a := range []int{-1, 0, 1, 63, 64, 65, 127, 128, 4032, 4095, 4096, 4097} {
		for _, b := range []int{-1, 0, 1, 2, 63, 64, 65, 130, 4032, 4095, 4096, 4097} {
			add("split", a, b)
		}
	}
	for a := -2; a < 67; a++ {
		for b := -2; b < 6; b++ {
			add("entry", a, b)
		}
	}
	for a := -20; a < 9000; a++ {
		add("word", a)
	}
	for a := -1; a < 5; a++ {
		for b := -1; b < 5; b++ {
			for _, x := range []int{-1, 0, 1, 6, 9, 15, 16} {
				for _, y := range []int{-1, 0, 2, 4, 9, 15, 16} {
					add("over", a, x, b, y)
				}
			}
		}
	}
	for major := range 5 {
		for start := range 5 {
			for length := range 5 {
				for deliver := range 5 {
					for _, tick := range []int{-1, 0, 1, 2, 3, 7, 1000} {
						add("next", major, start-1, length, deliver, tick)
					}
				}
			}
		}
	}
	for some := range slices.Chunk(lines, 2000) {
		script := strings.Join(some, "\n")
		tells(t, script, plain(script))
	}
}

func TestABeginningOfLines(t *testing.T) {
	r := numbers(253)
	for range 150 {
		lines := r.lines(30)
		script := strings.Join(lines, "\n")
		whole, e := console.Run(script)
		if e != api.OK {
			t.Fatalf("P25.2: %q: %d", script, e)
		}
		for i := range len(lines) + 1 {
			for _, end := range []string{"", "\n"} {
				begin := strings.Join(lines[:i], "\n") + end
				rest, _ := console.Run(strings.Join(lines[i:], "\n"))
				// The text is a beginning, and what the rest of the lines tells by itself is what comes behind it.
				if got, e := console.Run(begin); e != api.OK || got+rest != whole {
					t.Fatalf("P25.2: %q of %q: %q, %d of %q", begin, script, got, e, whole)
				}
			}
		}
	}
}

// TestNothingIsKept: a script tells the same whatever was asked ahead of it.
func TestNothingIsKept(t *testing.T) {
	const script = "split 63 2\nentry 5 3\nword 20487\nover 2 3 1 1\nnext 10 2 3 4 5\nfrob"
	const want = "0 63 1 1 0 1\n20487\n5 3\nyes\n14\nerror 2500\n"
	r := numbers(254)
	for range 200 {
		console.Run(strings.Join(r.lines(20), "\n"))
		console.Run(strings.Repeat("#", api.MaxText+1))
		tells(t, script, want)
	}
}

func TestFromSeveralGoroutines(t *testing.T) {
	r := numbers(255)
	var scripts, wants []string
	for range 8 {
		scripts = append(scripts, strings.Join(r.lines(100), "\n"))
		wants = append(wants, plain(scripts[len(scripts)-1]))
	}
	var group sync.WaitGroup
	for k := range 8 {
		group.Go(func() {
			for i := range 50 {
				at := (i + k) % len(scripts)
				if got, e := console.Run(scripts[at]); got != wants[at] || e != api.OK {
					t.Errorf("R5: %q: %q, %d, want %q", scripts[at], got, e, wants[at])
				}
			}
		})
	}
	group.Wait()
}
