package green_test

import (
	"fmt"
	"slices"
	"strings"
	"testing"

	"green/green"
)

// This file holds a second machine, written straight from the document with
// other means: it has no lines of threads, but notes at which tick a thread
// came where it is, and the one with the lowest tick goes first.

type modelThread struct {
	code  string
	next  int
	stack []int
	state byte
	lock  int // where it is blocked or waits
	since int // the tick at which it came to its state
	ends  int
}

type modelMachine struct {
	threads []*modelThread
	cells   [8]int
	owners  string
	tick    int
	out     string
	trace   string
	log     string
}

func (m *modelMachine) put(number int, state byte, lock int) {
	m.tick++
	t := m.threads[number]
	t.state, t.lock, t.since = state, lock, m.tick
}

// first is the thread that has been in a state longest, or -1.
func (m *modelMachine) first(state byte, lock int) int {
	found := -1
	for i, t := range m.threads {
		if t.state == state && t.lock == lock && (found < 0 || t.since < m.threads[found].since) {
			found = i
		}
	}
	return found
}

func (m *modelMachine) setOwner(lock int, name string) {
	m.owners = m.owners[:lock] + name + m.owners[lock+1:]
}

func (m *modelMachine) release(lock int) {
	heir := m.first('B', lock)
	if heir < 0 {
		m.setOwner(lock, "-")
		return
	}
	m.setOwner(lock, fmt.Sprint(heir))
	m.put(heir, 'R', 0)
}

func (m *modelMachine) make(number int, q int) byte {
	t := m.threads[number]
	letter := t.code[3*t.next]
	arg := int(t.code[3*t.next+1]-'0')*10 + int(t.code[3*t.next+2]-'0')
	pull := func() int {
		top := t.stack[len(t.stack)-1]
		t.stack = t.stack[:len(t.stack)-1]
		return top
	}
	t.next++
	switch letter {
	case 'k':
		t.stack = append(t.stack, arg)
	case 'g':
		t.stack = append(t.stack, m.cells[arg])
	case 's':
		m.cells[arg] = pull()
	case '+':
		b, a := pull(), 0
		a = pull()
		t.stack = append(t.stack, (a+b)%1000)
	case '-':
		b, a := pull(), 0
		a = pull()
		if a < b {
			a += 1000
		}
		t.stack = append(t.stack, a-b)
	case 'p':
		m.out += fmt.Sprintf("%03d", pull())
	case 'J':
		t.next = arg
	case 'Z':
		if pull() == 0 {
			t.next = arg
		}
	case 'A':
		if m.owners[arg] == '-' {
			m.setOwner(arg, fmt.Sprint(number))
		} else {
			m.put(number, 'B', arg)
		}
	case 'R':
		m.release(arg)
	case 'W':
		m.release(arg)
		m.put(number, 'W', arg)
	case 'N':
		if woken := m.first('W', arg); woken >= 0 {
			m.put(woken, 'B', arg)
		}
	case 'T':
		m.put(number, 'S', 0)
		t.ends = q + 1 + arg
	case 'X':
		m.put(number, 'D', 0)
	}
	return letter
}

func (m *modelMachine) quantum(q int, size int) {
	for i, t := range m.threads {
		if t.state == 'S' && t.ends <= q {
			m.put(i, 'R', 0)
		}
	}
	number := m.first('R', 0)
	if number < 0 {
		m.trace += "-"
		return
	}
	m.trace += fmt.Sprint(number)
	for range size {
		if m.make(number, q) == 'Y' || m.threads[number].state != 'R' {
			break
		}
	}
	if m.threads[number].state == 'R' {
		m.put(number, 'R', 0)
	}
}

func (m *modelMachine) states() string {
	out := ""
	for _, t := range m.threads {
		out += string(rune(t.state))
	}
	return out
}

// blockedBy tells whether a thread is blocked at a lock that another one owns.
func (m *modelMachine) blockedBy(number int, other int) bool {
	t := m.threads[number]
	return t.state == 'B' && m.owners[t.lock] == byte('0'+other)
}

// deadlocks tries every row of different threads, and keeps the rows that are
// rings, each once: rising.
func (m *modelMachine) deadlocks(row []int) []string {
	found := []string{}
	if len(row) > 0 && m.blockedBy(row[len(row)-1], row[0]) {
		names := []byte{}
		for _, number := range row {
			names = append(names, byte('0'+number))
		}
		slices.Sort(names)
		found = append(found, string(names))
	}
	for i := range m.threads {
		if !slices.Contains(row, i) && (len(row) == 0 || m.blockedBy(row[len(row)-1], i)) {
			found = append(found, m.deadlocks(append(slices.Clone(row), i))...)
		}
	}
	slices.Sort(found)
	return slices.Compact(found)
}

// note logs the deadlocks that were not there behind the quantum before, and
// holds it against the document if one is gone, or if there are two new ones.
func (m *modelMachine) note(t *testing.T, q int, before []string) []string {
	t.Helper()
	now := m.deadlocks(nil)
	fresh := 0
	for _, threads := range now {
		if !slices.Contains(before, threads) {
			m.log += fmt.Sprintf("%02d:%s ", q, threads)
			fresh++
		}
	}
	if fresh > 1 || len(now) != len(before)+fresh {
		t.Errorf("P10: behind quantum %d deadlocks %v, before %v", q, now, before)
	}
	return now
}

func modelStart(text string) *modelMachine {
	m := &modelMachine{owners: "----"}
	for i, part := range strings.Split(text, "|") {
		m.threads = append(m.threads, &modelThread{code: part})
		m.put(i, 'R', 0)
	}
	return m
}

// coder makes codes at which Check answers OK, with much to do at locks.
type coder struct {
	dice *dice
	code []string
	held []int
}

func (c *coder) add(letter byte, arg int) {
	c.code = append(c.code, fmt.Sprintf("%c%02d", letter, arg))
}

func (c *coder) push() {
	if c.dice.below(2) == 0 {
		c.add('k', c.dice.below(100))
	} else {
		c.add('g', c.dice.below(8))
	}
}

// some adds statements that leave the stack and the locks as they were.
func (c *coder) some(deep int) {
	for range 1 + c.dice.below(3) {
		if deep > 0 && c.dice.below(2) == 0 {
			c.nest(deep - 1)
		} else {
			c.plain()
		}
	}
}

func (c *coder) plain() {
	switch c.dice.below(7) {
	case 0:
		c.push()
		c.add('p', 0)
	case 1:
		c.push()
		c.add('s', c.dice.below(8))
	case 2:
		c.push()
		c.push()
		c.add("+-"[c.dice.below(2)], 0)
		c.add('s', c.dice.below(8))
	case 3:
		c.add('T', c.dice.below(6))
	case 4:
		c.add('Y', 0)
	default:
		if len(c.held) > 0 && c.dice.below(2) == 0 {
			c.add('W', c.held[len(c.held)-1])
		} else if len(c.held) > 0 {
			c.add('N', c.held[c.dice.below(len(c.held))])
		}
	}
}

func (c *coder) nest(deep int) {
	lock := c.dice.below(1 + c.dice.below(4))
	for _, held := range c.held {
		if held == lock {
			return
		}
	}
	switch c.dice.below(5) {
	case 0: // a branch
		c.push()
		at := len(c.code)
		c.add('Z', 0)
		c.some(deep)
		c.code[at] = fmt.Sprintf("Z%02d", len(c.code))
	case 1: // a number that stays on the stack meanwhile
		if deep < 2 {
			c.push()
			c.some(deep)
			c.add('p', 0)
		}
	default:
		c.add('A', lock)
		c.held = append(c.held, lock)
		c.some(deep)
		c.held = c.held[:len(c.held)-1]
		c.add('R', lock)
	}
}

func (d *dice) goodCode() string {
	c := coder{dice: d}
	for range 1 + d.below(3) {
		c.some(3)
	}
	if d.below(3) == 0 {
		c.add('J', 0)
	} else {
		c.add('X', 0)
	}
	return strings.Join(c.code, "")
}

func (d *dice) goodProgram() string {
	for {
		codes := []string{}
		for range 1 + d.below(4) {
			codes = append(codes, d.goodCode())
		}
		text := strings.Join(codes, "|")
		if wrong, _ := green.Check(text); wrong == green.OK {
			return text
		}
	}
}

func compareLog(t *testing.T, text string, quantum int, n int, want string) {
	t.Helper()
	log, wrong, place := green.Log(text, quantum, n)
	if log != want || wrong != green.OK || place != 0 {
		t.Fatalf("P10: Log(%q, %d, %d) = %q %d %d, want %q", text, quantum, n, log, wrong, place, want)
	}
}

// compareRun follows the second machine through n quanta, notes what states
// it came to, and answers its log.
func compareRun(t *testing.T, text string, quantum int, n int, seen map[byte]int) string {
	t.Helper()
	m := modelStart(text)
	deadlocks := []string{}
	before := ""
	for q := 0; ; q++ {
		want := fmt.Sprintf("out %q trace %q states %q owners %q cells %v", m.out, m.trace, m.states(), m.owners, m.cells)
		if q%13 == 0 || q == n {
			if got := tellRun(t, text, quantum, q); got != want {
				t.Fatalf("%q, %d, %d:\ngot  %s\nwant %s", text, quantum, q, got, want)
			}
		}
		if q%13 == 0 || q == n || m.log != before {
			compareLog(t, text, quantum, max(q-1, 0), before)
			compareLog(t, text, quantum, q, m.log)
		}
		before = m.log
		for _, state := range []byte(m.states()) {
			seen[state]++
		}
		if q == n {
			return m.log
		}
		m.quantum(q, quantum)
		deadlocks = m.note(t, q, deadlocks)
	}
}

func TestMadeRuns(t *testing.T) {
	d := dice{state: 17}
	seen := map[byte]int{}
	for range 600 {
		compareRun(t, d.goodProgram(), 1+d.below(9), d.below(61), seen)
	}
	for _, state := range []byte("RBWSD") {
		if seen[state] < 1000 {
			t.Errorf("only %d times a thread in state %c: %v", seen[state], state, seen)
		}
	}
}

// Programs of the first generator are odder: codes that no path leaves the
// beginning of, jumps into the middle, cells as counters.
func TestMadeOddRuns(t *testing.T) {
	d := dice{state: 19}
	seen := map[byte]int{}
	runs := 0
	for range 10000 {
		text := d.program()
		if wrong, _ := green.Check(text); wrong == green.OK {
			runs++
			compareRun(t, text, 1+d.below(9), 60, seen)
		}
	}
	if runs < 50 {
		t.Errorf("only %d runs", runs)
	}
}
