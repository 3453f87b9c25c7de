package console_test

import (
	"bytes"
	"fmt"
	"regexp"
	"strconv"
)

// plain is what a script tells, by a machine that goes over it byte by byte and asks no layer.
func plain(script string) string {
	var told bytes.Buffer
	var words []string
	var word []byte
	end := func() {
		if len(word) > 0 {
			words, word = append(words, string(word)), nil
		}
	}
	line := func() {
		end()
		if len(words) > 0 && words[0][0] != '#' {
			fmt.Fprintf(&told, "%s\n", plainLine(words))
		}
		words = nil
	}
	for i := range len(script) {
		switch b := script[i]; b {
		case 10:
			line()
		case 9, 32:
			end()
		default:
			word = append(word, b)
		}
	}
	line()
	return told.String()
}

// plainLine is what a line of some words tells.
func plainLine(words []string) string {
	var n []int
	for _, w := range words[1:] {
		x, ok := plainNumber(w)
		if !ok {
			return "error 2500"
		}
		n = append(n, x)
	}
	switch fmt.Sprint(words[0], " ", len(n)) {
	case "split 2":
		return plainSplit(n[0], n[1])
	case "entry 2":
		return plainEntry(n[0], n[1])
	case "word 1":
		return plainWord(n[0])
	case "over 4":
		return plainOver(n[0], n[1], n[2], n[3])
	case "next 5":
		return plainNext(n[0], n[1], n[2], n[3], n[4])
	}
	return "error 2500"
}

// aNumber is how each number is written.
var aNumber = regexp.MustCompile(`^-?[0-9]{1,6}$`)

// plainNumber is the number that a word is, if it is one.
func plainNumber(word string) (int, bool) {
	if !aNumber.MatchString(word) {
		return 0, false
	}
	n, err := strconv.Atoi(word)
	return n, err == nil
}

func plainSplit(at, n int) string {
	if at < 0 || n < 0 || at > 4096 || n > 4096-at {
		return "error 100"
	}
	told := ""
	for b := at; b < at+n; {
		size := 1
		for b+size < at+n && (b+size)%64 != 0 {
			size++
		}
		if told != "" {
			told += " "
		}
		told += fmt.Sprintf("%d %d %d", b/64, b%64, size)
		b += size
	}
	return told
}

func plainEntry(frame, perm int) string {
	switch {
	case frame == 0 && perm == 0:
		return "0"
	case frame >= 0 && frame <= 63 && perm >= 1 && perm <= 3:
		return fmt.Sprint(1 + perm*2 + frame*4096)
	}
	return "error 400"
}

func plainWord(word int) string {
	if word == 0 {
		return "0 0"
	}
	for frame := range 64 {
		for perm := 1; perm <= 3; perm++ {
			if 1+perm*2+frame*4096 == word {
				return fmt.Sprintf("%d %d", frame, perm)
			}
		}
	}
	return "error 400"
}

func plainOver(level, cats, otherLevel, otherCats int) string {
	for _, x := range []int{level, otherLevel} {
		if x < 0 || x > 3 {
			return "no"
		}
	}
	for _, x := range []int{cats, otherCats} {
		if x < 0 || x > 15 {
			return "no"
		}
	}
	for _, bit := range []int{1, 2, 4, 8} {
		if otherCats/bit%2 > cats/bit%2 {
			return "no"
		}
	}
	if level < otherLevel {
		return "no"
	}
	return "yes"
}

func plainNext(major, start, length, deliver, tick int) string {
	if major < 1 || major > 64 || start < 0 || length < 1 || start+length > major || deliver < start || deliver >= start+length || tick < 0 || tick > 1048575 {
		return "error 1000"
	}
	for tick%major != deliver {
		tick++
	}
	return fmt.Sprint(tick)
}
