package green_test

import (
	"fmt"
	"regexp"
	"sort"
	"strings"
	"testing"

	"green/green"
)

// This file holds a second checker, written straight from the document with
// other means, and compares its answers with Check's on many made texts.

const oneCode = `(?:[kgs+\-pJZARWNTYX][0-9][0-9])+`

var wholeProgram = regexp.MustCompile(`^` + oneCode + `(?:\|` + oneCode + `){0,3}$`)

func begins(text string) bool {
	for _, rest := range []string{"", "0", "00", "X00"} {
		if wholeProgram.MatchString(text + rest) {
			return true
		}
	}
	return false
}

func modelText(text string) (bool, int) {
	for i := range len(text) {
		if !begins(text[:i+1]) {
			return false, i
		}
	}
	return wholeProgram.MatchString(text), len(text)
}

func modelArg(letter byte, arg int, size int) bool {
	limit, known := map[byte]int{'k': 100, 'T': 100, 'g': 8, 's': 8, 'J': size, 'Z': size,
		'A': 4, 'R': 4, 'W': 4, 'N': 4}[letter]
	if !known {
		limit = 1
	}
	return arg < limit
}

type modelSpot struct {
	place  int
	height int
	row    string
}

// modelStep gives the error at a spot, or the spots behind it.
func modelStep(part string, s modelSpot) (green.Errno, []modelSpot) {
	letter, lock := part[3*s.place], part[3*s.place+2:3*s.place+3]
	target := int(part[3*s.place+1]-'0')*10 + int(part[3*s.place+2]-'0')
	next := modelSpot{s.place + 1, s.height, s.row}
	switch letter {
	case 'k', 'g':
		next.height++
	case 's', 'p', 'Z':
		next.height--
	case '+', '-':
		if s.height < 2 {
			return green.ErrStack, nil
		}
		next.height--
	case 'A':
		if strings.Contains(s.row, lock) {
			return green.ErrLock, nil
		}
		next.row += lock
	case 'R', 'W':
		if !strings.HasSuffix(s.row, lock) {
			return green.ErrLock, nil
		}
		if letter == 'R' {
			next.row = strings.TrimSuffix(s.row, lock)
		}
	case 'N':
		if !strings.Contains(s.row, lock) {
			return green.ErrLock, nil
		}
	case 'X':
		if s.row != "" {
			return green.ErrLock, nil
		}
		return green.OK, nil
	}
	if next.height < 0 || next.height > 6 {
		return green.ErrStack, nil
	}
	jump := modelSpot{target, next.height, next.row}
	switch letter {
	case 'J':
		return green.OK, []modelSpot{jump}
	case 'Z':
		return green.OK, []modelSpot{next, jump}
	}
	return green.OK, []modelSpot{next}
}

func modelCode(part string) (green.Errno, int) {
	size := len(part) / 3
	seen := map[modelSpot]bool{}
	errors := map[int][]green.Errno{}
	todo := []modelSpot{{}}
	count := map[int]int{}
	for len(todo) > 0 {
		s := todo[len(todo)-1]
		todo = todo[:len(todo)-1]
		if seen[s] {
			continue
		}
		seen[s] = true
		count[s.place]++
		if count[s.place] == 2 {
			errors[s.place] = append(errors[s.place], green.ErrMeet)
		}
		if s.place == size {
			errors[s.place] = append(errors[s.place], green.ErrEnd)
			continue
		}
		wrong, more := modelStep(part, s)
		if wrong != green.OK {
			errors[s.place] = append(errors[s.place], wrong)
		}
		todo = append(todo, more...)
	}
	return modelFirst(errors, size)
}

func modelFirst(errors map[int][]green.Errno, size int) (green.Errno, int) {
	for place := 0; place <= size; place++ {
		found := errors[place]
		if len(found) == 0 {
			continue
		}
		named := map[green.Errno]int{green.ErrEnd: 1, green.ErrMeet: 2, green.ErrStack: 3, green.ErrLock: 4}
		sort.Slice(found, func(i, j int) bool { return named[found[i]] < named[found[j]] })
		return found[0], place
	}
	return green.OK, 0
}

func modelCheck(text string) (green.Errno, int) {
	if len(text) > 400 {
		return green.ErrLong, 0
	}
	if good, place := modelText(text); !good {
		return green.ErrText, place
	}
	parts := strings.Split(text, "|")
	start := 0
	for _, part := range parts {
		for i := 0; i < len(part); i += 3 {
			arg := int(part[i+1]-'0')*10 + int(part[i+2]-'0')
			if !modelArg(part[i], arg, len(part)/3) {
				return green.ErrArg, start + i
			}
		}
		start += len(part) + 1
	}
	start = 0
	for _, part := range parts {
		if wrong, place := modelCode(part); wrong != green.OK {
			return wrong, start + 3*place
		}
		start += len(part) + 1
	}
	return green.OK, 0
}

// dice is a source of made inputs that gives the same ones at each run.
type dice struct{ state uint64 }

func (d *dice) below(limit int) int {
	d.state = d.state*6364136223846793005 + 1442695040888963407
	return int((d.state >> 33) % uint64(limit))
}

func (d *dice) instruction(size int) string {
	letters := "kkggsp+-JZZAARRWNTYX"
	letter := letters[d.below(len(letters))]
	limit := map[byte]int{'k': 100, 'T': 100, 'g': 8, 's': 8, 'J': size, 'Z': size,
		'A': 4, 'R': 4, 'W': 4, 'N': 4}[letter]
	if limit == 0 {
		limit = 1
	}
	if d.below(200) == 0 {
		limit++
	}
	if strings.IndexByte("ARWN", letter) >= 0 && d.below(2) == 0 {
		limit = 1
	}
	return fmt.Sprintf("%c%02d", letter, d.below(limit)%100)
}

// code keeps an even stack for its beginning, so that paths come far.
func (d *dice) code() string {
	size := 1 + d.below(14)
	out := ""
	for i := 0; i < size; i++ {
		if i+1 < size && d.below(5) == 0 {
			out += fmt.Sprintf("g00Z%02d", d.below(size))
			i++
		} else if i+1 == size && d.below(4) > 0 {
			out += "X00"
		} else {
			out += d.instruction(size)
		}
	}
	return out
}

func (d *dice) program() string {
	out := d.code()
	for d.below(3) == 0 {
		out += "|" + d.code()
	}
	if d.below(30) == 0 {
		at := d.below(len(out))
		out = out[:at] + string([]byte{byte(d.below(256))}) + out[at+d.below(2):]
	}
	if d.below(60) == 0 {
		out = out[:d.below(len(out)+1)]
	}
	return out
}

func compareWithModel(t *testing.T, text string) green.Errno {
	t.Helper()
	got, place := green.Check(text)
	want, wantPlace := modelCheck(text)
	if got != want || place != wantPlace {
		t.Fatalf("Check(%q) = %d %d, want %d %d", text, got, place, want, wantPlace)
	}
	return want
}

func TestMadePrograms(t *testing.T) {
	d := dice{state: 7}
	var count [9]int
	for range 20000 {
		count[compareWithModel(t, d.program())]++
	}
	for _, e := range []green.Errno{green.OK, green.ErrText, green.ErrArg, green.ErrMeet, green.ErrStack, green.ErrLock, green.ErrEnd} {
		if count[e] < 50 {
			t.Errorf("only %d made programs with the answer %d: %v", count[e], e, count)
		}
	}
}

func TestMadeBytes(t *testing.T) {
	d := dice{state: 11}
	alphabet := "kgs+-pJZARWNTYX|||000011239 x\x00\xff"
	for range 20000 {
		out := []byte{}
		for range d.below(12) {
			out = append(out, alphabet[d.below(len(alphabet))])
		}
		compareWithModel(t, string(out))
	}
}

func TestEveryByteEverywhere(t *testing.T) {
	for _, text := range []string{"X00", "X00|X00", "k01p00X00|X00|X00|X00"} {
		for at := 0; at <= len(text); at++ {
			for b := range 256 {
				one := string([]byte{byte(b)})
				compareWithModel(t, text[:at]+one)
				compareWithModel(t, text[:at]+one+text[at:])
				if at < len(text) {
					compareWithModel(t, text[:at]+one+text[at+1:])
				}
			}
		}
	}
}

// Long codes in which nearly every height and row comes to be everywhere.
func TestManySpots(t *testing.T) {
	d := dice{state: 13}
	kinds := []string{"A00", "A01", "A02", "A03", "R00", "R01", "R02", "R03", "k00", "p00"}
	for range 4 {
		out := ""
		for i := 0; i < 99; i += 3 {
			out += fmt.Sprintf("g00Z%02d%s", d.below(33)*3, kinds[d.below(len(kinds))])
		}
		compareWithModel(t, out+"X00")
	}
}
