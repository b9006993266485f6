package green_test

import (
	"fmt"
	"strings"
	"testing"

	"green/green"
)

type logCase struct {
	text    string
	quantum int
	n       int
	want    string
}

func testLogs(t *testing.T, cases []logCase) {
	t.Helper()
	for _, c := range cases {
		log, wrong, place := green.Log(c.text, c.quantum, c.n)
		if log != c.want || wrong != green.OK || place != 0 {
			t.Errorf("P10: Log(%.80q, %d, %d) = %q %d %d, want %q", c.text, c.quantum, c.n, log, wrong, place, c.want)
		}
	}
}

// Two threads that ask for two locks crosswise.
const crossed = "A00A01R01R00X00|A01A00R00R01X00"

func TestP10NoDeadlock(t *testing.T) {
	testLogs(t, []logCase{
		{"X00", 1, 0, ""},
		{"X00", 9, 60, ""},
		{"J00", 9, 60, ""},
		{"A00R00J00|A00R00J00", 1, 60, ""},
		// The same order of locks.
		{"A00A01R01R00J00|A00A01R01R00J00", 1, 60, ""},
		// Crosswise, but one is ahead with both.
		{crossed, 2, 60, ""},
		{crossed, 9, 60, ""},
		// The owner is done, asleep, waiting or ready rather than blocked.
		{"A00Y00R00X00|A00R00X00", 9, 60, ""},
		{"A00T99R00X00|A00R00X00", 9, 60, ""},
		{"A01A00W00R00R01X00|A00A01R01R00X00", 9, 60, ""},
		{"A00J01|A00R00X00|A00R00X00|A00R00X00", 9, 60, ""},
		// All wait, for nobody wakes them.
		{"A00W00R00X00|A00W00R00X00", 1, 60, ""},
		// A row of blocked threads is no ring: 3 at 2, 2 at 1, 1 at 0, who sleeps.
		{"A00T99R00X00|A01A00R00R01X00|A02A01R01R02X00|A02R02X00", 9, 60, ""},
	})
}

func TestP10TwoThreads(t *testing.T) {
	testLogs(t, []logCase{
		{crossed, 1, 0, ""},
		{crossed, 1, 3, ""},
		{crossed, 1, 4, "03:01 "},
		{crossed, 1, 5, "03:01 "},
		{crossed, 1, 60, "03:01 "},
		// The locks' numbers do not count, nor who asked last.
		{"A03A02R02R03X00|A02A03R03R02X00", 1, 60, "03:01 "},
		{"Y00A00A01R01R00X00|A01A00R00R01X00", 1, 60, "04:01 "},
		{"A00Y00A01R01R00X00|A01A00R00R01X00", 9, 2, ""},
		{"A00Y00A01R01R00X00|A01A00R00R01X00", 9, 3, "02:01 "},
		// Any two of the threads.
		{"X00|" + crossed, 1, 60, "04:12 "},
		{"A00A01R01R00X00|X00|A01A00R00R01X00", 1, 60, "04:02 "},
		{"X00|A00A01R01R00X00|X00|A01A00R00R01X00", 1, 60, "05:13 "},
		{"A00A01R01R00X00|J00|J00|A01A00R00R01X00", 1, 60, "07:03 "},
		// Behind locks that were asked for and given back.
		{"A00R00Y00A00A01R01R00X00|A01R01Y00A01A00R00R01X00", 1, 9, ""},
		{"A00R00Y00A00A01R01R00X00|A01R01Y00A01A00R00R01X00", 1, 60, "09:01 "},
	})
}

func TestP10Rings(t *testing.T) {
	testLogs(t, []logCase{
		{"A00A01R01R00X00|A01A02R02R01X00|A02A00R00R02X00", 1, 5, ""},
		{"A00A01R01R00X00|A01A02R02R01X00|A02A00R00R02X00", 1, 6, "05:012 "},
		// The threads are told rising, whichever way the ring goes.
		{"A00A02R02R00X00|A01A00R00R01X00|A02A01R01R02X00", 1, 6, "05:012 "},
		{"X00|A00A02R02R00X00|A01A00R00R01X00|A02A01R01R02X00", 1, 60, "06:123 "},
		{"A00A01R01R00X00|A01A02R02R01X00|X00|A02A00R00R02X00", 1, 60, "06:013 "},
		{"A00A01R01R00X00|A01A02R02R01X00|A02A03R03R02X00|A03A00R00R03X00", 1, 7, ""},
		{"A00A01R01R00X00|A01A02R02R01X00|A02A03R03R02X00|A03A00R00R03X00", 1, 8, "07:0123 "},
		{"A00A02R02R00X00|A01A03R03R01X00|A02A01R01R02X00|A03A00R00R03X00", 1, 60, "07:0123 "},
		{"A00A03R03R00X00|A01A00R00R01X00|A02A01R01R02X00|A03A02R02R03X00", 1, 60, "07:0123 "},
	})
}

// Who is blocked at a lock of a ring, or behind such a thread, is not of it.
func TestP10Bystanders(t *testing.T) {
	testLogs(t, []logCase{
		{crossed + "|A00R00X00", 1, 60, "04:01 "},
		{crossed + "|Y00A00R00X00|Y00Y00A01R01X00", 1, 60, "05:01 "},
		// Blocked ahead of those of the ring.
		{"A00Y00A01R01R00X00|A01Y00A00R00R01X00|A00R00X00|A01R01X00", 9, 60, "05:01 "},
		// Blocked behind the ring has closed, with a lock of its own that
		// another one is blocked at.
		{crossed + "|A02T05A00R00R02X00|T06A02R02X00", 1, 60, "05:01 "},
		// The last one to be blocked runs into a ring from outside.
		{crossed + "|T09A00R00X00", 1, 60, "04:01 "},
		// A ring of three, and one that is blocked before or later.
		{"Y00A00R00X00|A00A01R01R00X00|A01A02R02R01X00|A02A00R00R02X00", 1, 60, "07:123 "},
		{"Y00Y00A00R00X00|A00A01R01R00X00|A01A02R02R01X00|A02A00R00R02X00", 1, 60, "07:123 "},
	})
}

func TestP10Edges(t *testing.T) {
	testLogs(t, []logCase{
		// As early as one can be: with who is woken and with its waker.
		{"A01A00W00R00R01X00|A00N00A01R01R00X00", 9, 1, ""},
		{"A01A00W00R00R01X00|A00N00A01R01R00X00", 9, 2, "01:01 "},
		{"A00A03W03R03R00X00|A03N03A00R00R03X00", 9, 2, "01:01 "},
		// As late as n allows.
		{"A00T58A01R01R00X00|A01A00R00R01X00", 9, 59, ""},
		{"A00T58A01R01R00X00|A01A00R00R01X00", 9, 60, "59:01 "},
		{"A00T59A01R01R00X00|A01A00R00R01X00", 9, 60, ""},
		{"A00T08A01R01R00X00|A01A00R00R01X00", 9, 60, "09:01 "},
		{"A00T09A01R01R00X00|A01A00R00R01X00", 9, 60, "10:01 "},
		// At any quantum.
		{"A00Y00A01R01R00X00|A01A00R00R01X00", 1, 60, "04:01 "},
		{"A00Y00A01R01R00X00|A01A00R00R01X00", 2, 60, "02:01 "},
		{"A00Y00A01R01R00X00|A01A00R00R01X00", 8, 60, "02:01 "},
	})
}

func TestP10HandedOn(t *testing.T) {
	testLogs(t, []logCase{
		// Thread 1 owns lock 0 since thread 0 gave it back, and is blocked at
		// the lock of thread 2, which asks for lock 0.
		{"A00Y00R00X00|A00Y00A01R01R00X00|A01Y00A00R00R01X00", 9, 60, "06:12 "},
		// The same by W.
		{"A00Y00W00R00X00|A00Y00A01R01R00X00|A01Y00A00R00R01X00", 9, 60, "06:12 "},
		// Thread 2 was blocked at lock 0 of thread 0; now thread 1 has it.
		{"A00Y00R00X00|A00Y00A01R01R00X00|A01A00R00R01X00", 9, 60, "05:12 "},
		// A woken thread that gets its lock is not blocked any more.
		{"A01A00W00R00R01X00|A00N00R00A01R01X00", 9, 60, ""},
		// But it can be blocked anew.
		{"A00W00Y00A01R01R00X00|A01A00N00R00Y00A00R00R01X00", 9, 60, "04:01 "},
		// Woken and not yet out of it when the waker asks.
		{"A01A00W00R00R01X00|T01A00N00Y00A01R01R00X00", 9, 60, "04:01 "},
		// Two are woken; the ring goes through the one whose lock is asked for.
		{"A01A00W00R00R01X00|A02A00W00R00R02X00|A00N00N00A02R02R00X00", 9, 60, "02:12 "},
		{"A01A00W00R00R01X00|A02A00W00R00R02X00|A00N00N00A01R01R00X00", 9, 60, "02:02 "},
		{"A01A00W00R00R01X00|A02A00W00R00R02X00|A00N00A02R02R00X00", 9, 60, ""},
	})
}

func TestP10SeveralDeadlocks(t *testing.T) {
	both := crossed + "|A02A03R03R02X00|A03A02R02R03X00"
	late := "T03A00A01R01R00X00|T03A01A00R00R01X00|A02A03R03R02X00|A03A02R02R03X00"
	testLogs(t, []logCase{
		{both, 1, 5, ""},
		{both, 1, 6, "05:01 "},
		{both, 1, 7, "05:01 "},
		{both, 1, 8, "05:01 07:23 "},
		{both, 1, 60, "05:01 07:23 "},
		// By the first quantum, not by the threads.
		{late, 1, 6, "05:23 "},
		{late, 1, 9, "05:23 "},
		{late, 1, 10, "05:23 09:01 "},
		// Threads and locks in other pairs.
		{"A00A01R01R00X00|A02A03R03R02X00|A01A00R00R01X00|A03A02R02R03X00", 1, 60, "06:02 07:13 "},
		{"A00A03R03R00X00|A01A02R02R01X00|A02A01R01R02X00|A03A00R00R03X00", 1, 60, "06:12 07:03 "},
	})
}

// Others go on beside a deadlock, and the log stays as it is.
func TestP10OthersGoOn(t *testing.T) {
	text := crossed + "|A02N02k01p00R02J00|T01A02W02R02J00"
	for quantum := 1; quantum <= 2; quantum++ {
		whole, _, _ := green.Log(text, quantum, 60)
		for n := 0; n <= 60; n++ {
			want := ""
			if quantum == 1 && n >= 6 {
				want = "05:01 "
			}
			if log, _, _ := green.Log(text, quantum, n); log != want || !strings.HasPrefix(whole, log) {
				t.Errorf("P10: quantum %d, n %d: %q, want %q", quantum, n, log, want)
			}
		}
	}
}

func TestP2Log(t *testing.T) {
	texts := []string{"X00", crossed, crossed + "|A02A03R03R02X00|A03A02R02R03X00", "J00|" + crossed}
	first := []string{}
	for _, text := range texts {
		log, _, _ := green.Log(text, 1, 30)
		first = append(first, log)
	}
	for _, ahead := range texts {
		for i, text := range texts {
			green.Log(ahead, 1, 60)
			if log, _, _ := green.Log(text, 1, 30); log != first[i] {
				t.Errorf("P2: Log of %q behind %q: %q, first %q", text, ahead, log, first[i])
			}
		}
	}
}

func (d *dice) shuffledLocks() []int {
	locks := []int{0, 1, 2, 3}
	for i := range locks {
		j := i + d.below(len(locks)-i)
		locks[i], locks[j] = locks[j], locks[i]
	}
	return locks
}

// tangle makes a code that asks for locks, one inside the other, with
// something between them.
func (d *dice) tangle(locks []int) string {
	c := coder{dice: d}
	for range d.below(3) {
		c.plain()
	}
	for _, lock := range locks {
		c.add('A', lock)
		c.held = append(c.held, lock)
		c.add('Y', 0)
		for range d.below(3) {
			c.plain()
		}
	}
	for i := len(c.held) - 1; i >= 0; i-- {
		c.add('R', c.held[i])
	}
	c.add("JX"[d.below(2)], 0)
	return strings.Join(c.code, "")
}

// circle makes codes that each ask for a lock and for the one behind it.
func (d *dice) circle(locks []int) []string {
	codes := []string{}
	for i, lock := range locks {
		codes = append(codes, d.tangle([]int{lock, locks[(i+1)%len(locks)]}))
	}
	return codes
}

func (d *dice) tangledProgram() string {
	codes := []string{}
	locks := d.shuffledLocks()
	switch d.below(3) {
	case 0:
		codes = d.circle(locks[:2+d.below(3)])
	case 1:
		codes = append(d.circle(locks[:2]), d.circle(locks[2:])...)
	}
	for len(codes) < 4 {
		codes = append(codes, d.tangle(d.shuffledLocks()[:1+d.below(3)]))
	}
	for i := range codes {
		j := i + d.below(len(codes)-i)
		codes[i], codes[j] = codes[j], codes[i]
	}
	return strings.Join(codes, "|")
}

func TestMadeDeadlocks(t *testing.T) {
	d := dice{state: 23}
	sizes := [5]int{}
	several := 0
	for range 500 {
		log := compareRun(t, d.tangledProgram(), 1+d.below(9), 60, map[byte]int{})
		entries := strings.Fields(log)
		for _, entry := range entries {
			sizes[len(entry)-3]++
		}
		if len(entries) > 1 {
			several++
		}
	}
	if sizes[2] < 100 || sizes[3] < 20 || sizes[4] < 5 || several < 5 {
		t.Errorf("too few deadlocks: of two, three, four threads %v, several in a run %d", sizes[2:], several)
	}
}

// history is what the calls tell behind each number of quanta.
type history struct {
	threads int
	trace   string
	states  [61]string
	owners  [61]string
	logs    [61]string
}

func tellHistory(text string, quantum int) history {
	h := history{threads: strings.Count(text, "|") + 1}
	h.trace, _, _ = green.Trace(text, quantum, 60)
	for n := range h.states {
		h.states[n], _, _ = green.States(text, quantum, n)
		h.owners[n], _, _ = green.Owners(text, quantum, n)
		h.logs[n], _, _ = green.Log(text, quantum, n)
	}
	return h
}

// badOwner finds a lock of a thread that is done or that is none at all.
func (h *history) badOwner() string {
	for n, owners := range h.owners {
		for lock, name := range []byte(owners) {
			number := int(name) - '0'
			if name != '-' && (number < 0 || number >= h.threads || h.states[n][number] == 'D') {
				return fmt.Sprintf("behind %d quanta %s, and lock %d has the owner %c", n, h.states[n], lock, name)
			}
		}
	}
	return ""
}

// passedOver finds a thread that was ready and had no turn. Who was asleep
// behind the quantum before and is ready behind this one was ready at its
// beginning.
func (h *history) passedOver() string {
	for begin := 0; begin+h.threads <= 60; begin++ {
		turns := h.trace[begin : begin+h.threads]
		for i := range h.threads {
			stood := h.states[begin][i] == 'R' || h.states[begin][i] == 'S'
			for n := begin + 1; n <= begin+h.threads; n++ {
				stood = stood && h.states[n][i] == 'R'
			}
			if stood && !strings.Contains(turns, fmt.Sprint(i)) {
				return fmt.Sprintf("thread %d is ready from quantum %d on, and the turns are %s", i, begin, turns)
			}
		}
	}
	return ""
}

// lostDeadlock finds a thread of a deadlock that is not blocked for good, or
// that was so before the deadlock is said to have begun.
func (h *history) lostDeadlock() string {
	for _, entry := range strings.Fields(h.logs[60]) {
		since := int(entry[0]-'0')*10 + int(entry[1]-'0')
		if !strings.ContainsRune(entry[3:], rune(h.trace[since])) {
			return fmt.Sprintf("%s, and that quantum was of thread %c", entry, h.trace[since])
		}
		for n := since + 1; n <= 60; n++ {
			for _, name := range []byte(entry[3:]) {
				if h.states[n][name-'0'] != 'B' || !strings.Contains(h.logs[n], entry+" ") {
					return fmt.Sprintf("%s, and behind %d quanta %s and %q", entry, n, h.states[n], h.logs[n])
				}
			}
		}
	}
	return ""
}

// stuck finds an end that is neither good nor told to be a deadlock.
func (h *history) stuck() string {
	for n, states := range h.states {
		if !strings.ContainsAny(states, "RSW") && strings.Trim(states, "D") != "" && h.logs[n] == "" {
			return fmt.Sprintf("behind %d quanta %s, and no deadlock", n, states)
		}
	}
	return ""
}

func testNeverWrong(t *testing.T, text string, quantum int) {
	t.Helper()
	h := tellHistory(text, quantum)
	for _, wrong := range []string{h.badOwner(), h.passedOver(), h.lostDeadlock(), h.stuck()} {
		if wrong != "" {
			t.Errorf("P11: %q, quantum %d: %s", text, quantum, wrong)
		}
	}
}

func TestP11(t *testing.T) {
	for _, text := range []string{
		"X00",
		"J00|J00|J00|J00",
		crossed,
		crossed + "|J00|T03J00",
		crossed + "|A02A03R03R02X00|A03A02R02R03X00",
		"A00A01R01R00X00|A01A02R02R01X00|A02A00R00R02X00|Y00A00R00X00",
		"A00Y00R00J00|A00Y00R00J00|A00Y00R00J00|J00",
		"T00J00|T01J00|T02J00|Y00J00",
		"A00W00N00R00J00|A00W00N00R00J00|A00N00R00T03J00|Y00J00",
		"A01A00W00R00R01X00|T01A00N00A01R01R00X00",
		"A00A01W01R01R00X00|A01A00R00N01R01X00",
	} {
		for quantum := 1; quantum <= 9; quantum++ {
			testNeverWrong(t, text, quantum)
		}
	}
}

func TestP11Made(t *testing.T) {
	d := dice{state: 29}
	for range 100 {
		testNeverWrong(t, d.goodProgram(), 1+d.below(9))
		testNeverWrong(t, d.tangledProgram(), 1+d.below(9))
	}
}

// A lock with two owners would let one thread print between the two prints of
// another, or count from the same number.
func TestP11OneOwner(t *testing.T) {
	turn := "A00g00k01+00p00Y00g00k01+00p00g00k01+00s00R00J00"
	wait := "A00g00k01+00p00T01g00k01+00p00g00k01+00s00N00W00R00J00"
	for _, text := range []string{
		turn + "|" + turn + "|" + turn + "|" + turn,
		wait + "|" + wait + "|" + turn,
		wait + "|" + turn + "|Y00J00",
	} {
		for quantum := 1; quantum <= 9; quantum++ {
			out, _, _ := green.Out(text, quantum, 60)
			for i := 0; i+3 <= len(out); i += 3 {
				if want := fmt.Sprintf("%03d", i/6+1); out[i:i+3] != want {
					t.Errorf("P11: %q, %d: %s at %d of %s", text, quantum, out[i:i+3], i, out)
					break
				}
			}
			if len(out) < 12 {
				t.Errorf("P11: %q, %d: only %s was printed", text, quantum, out)
			}
		}
	}
}
