package green_test

import (
	"fmt"
	"math"
	"strings"
	"testing"

	"green/green"
)

// runCase wants what all calls tell of one machine.
type runCase struct {
	text    string
	quantum int
	n       int
	out     string
	trace   string
	states  string
	owners  string
	cells   string
}

const noCell = "[0 0 0 0 0 0 0 0]"

func testRuns(t *testing.T, promise string, cases []runCase) {
	t.Helper()
	for _, c := range cases {
		if c.cells == "" {
			c.cells = noCell
		}
		want := fmt.Sprintf("out %q trace %q states %q owners %q cells %s", c.out, c.trace, c.states, c.owners, c.cells)
		got := tellRun(t, c.text, c.quantum, c.n)
		if got != want {
			t.Errorf("%s: %.80q, %d, %d:\ngot  %s\nwant %s", promise, c.text, c.quantum, c.n, got, want)
		}
	}
}

func tellRun(t *testing.T, text string, quantum int, n int) string {
	t.Helper()
	out, e1, p1 := green.Out(text, quantum, n)
	trace, e2, p2 := green.Trace(text, quantum, n)
	states, e3, p3 := green.States(text, quantum, n)
	owners, e4, p4 := green.Owners(text, quantum, n)
	cells, e5, p5 := green.Cells(text, quantum, n)
	_, e6, p6 := green.Log(text, quantum, n)
	if errors := [6]green.Errno{e1, e2, e3, e4, e5, e6}; errors != [6]green.Errno{} {
		t.Errorf("%.80q, %d, %d: errors %v, want none", text, quantum, n, errors)
	}
	if places := [6]int{p1, p2, p3, p4, p5, p6}; places != [6]int{} {
		t.Errorf("%.80q, %d, %d: places %v, want 0", text, quantum, n, places)
	}
	return fmt.Sprintf("out %q trace %q states %q owners %q cells %v", out, trace, states, owners, cells)
}

// testRefused wants one error and place of all calls, and no other result.
func testRefused(t *testing.T, text string, quantum int, n int, want green.Errno, place int) {
	t.Helper()
	out, e1, p1 := green.Out(text, quantum, n)
	trace, e2, p2 := green.Trace(text, quantum, n)
	states, e3, p3 := green.States(text, quantum, n)
	owners, e4, p4 := green.Owners(text, quantum, n)
	cells, e5, p5 := green.Cells(text, quantum, n)
	log, e6, p6 := green.Log(text, quantum, n)
	if errors := [6]green.Errno{e1, e2, e3, e4, e5, e6}; errors != [6]green.Errno{want, want, want, want, want, want} {
		t.Errorf("P6: %.80q, %d, %d: errors %v, want %d", text, quantum, n, errors, want)
	}
	if places := [6]int{p1, p2, p3, p4, p5, p6}; places != [6]int{place, place, place, place, place, place} {
		t.Errorf("P6: %.80q, %d, %d: places %v, want %d", text, quantum, n, places, place)
	}
	if out != "" || trace != "" || states != "" || owners != "" || len(cells) != 0 || log != "" {
		t.Errorf("P1: %.80q, %d, %d: beside an error %q %q %q %q %v %q", text, quantum, n, out, trace, states, owners, cells, log)
	}
}

func TestP6Errors(t *testing.T) {
	for _, c := range []checkCase{
		{strings.Repeat("Y00", 131) + "X00|X00|", green.ErrLong, 0},
		{strings.Repeat("x", 401), green.ErrLong, 0},
		{"", green.ErrText, 0},
		{"X00|", green.ErrText, 4},
		{"X00|X0;", green.ErrText, 6},
		{"X00|X01", green.ErrArg, 4},
		{"k01J00", green.ErrMeet, 0},
		{"X00|p00X00", green.ErrStack, 4},
		{"A00X00", green.ErrLock, 3},
		{"Y00|X00", green.ErrEnd, 3},
	} {
		// Check's errors are named ahead of ErrRange.
		for _, quantum := range []int{math.MinInt, -1, 0, 1, 9, 10, math.MaxInt} {
			for _, n := range []int{math.MinInt, -1, 0, 60, 61, math.MaxInt} {
				testRefused(t, c.text, quantum, n, c.want, c.place)
			}
		}
	}
}

func TestP6Range(t *testing.T) {
	for _, text := range []string{"X00", "J00", "A00R00X00|k01p00J00"} {
		for _, quantum := range []int{math.MinInt, -9, -1, 0, 10, 11, math.MaxInt} {
			for _, n := range []int{math.MinInt, -1, 0, 1, 60, 61, math.MaxInt} {
				testRefused(t, text, quantum, n, green.ErrRange, 0)
			}
		}
		for _, n := range []int{math.MinInt, -60, -1, 61, 62, 99, math.MaxInt} {
			for quantum := 1; quantum <= 9; quantum++ {
				testRefused(t, text, quantum, n, green.ErrRange, 0)
			}
		}
		for quantum := 1; quantum <= 9; quantum++ {
			for n := 0; n <= 60; n++ {
				tellRun(t, text, quantum, n)
			}
		}
	}
}

func TestP6First(t *testing.T) {
	testRuns(t, "P6", []runCase{
		{"X00", 1, 0, "", "", "R", "----", ""},
		{"k01p00X00|k02s00X00", 9, 0, "", "", "RR", "----", ""},
		{"A00R00X00|T00X00|Y00X00", 5, 0, "", "", "RRR", "----", ""},
		{"X00|X00|X00|X00", 1, 0, "", "", "RRRR", "----", ""},
		{"X00|X00|X00|X00", 1, 5, "", "0123-", "DDDD", "----", ""},
		{"g00g01g02g03g04g05p00p00p00p00p00p00X00", 9, 2, "000000000000000000", "00", "D", "----", ""},
		{"g06g07p00p00X00", 9, 1, "000000", "0", "D", "----", ""},
	})
}

func TestP6Quanta(t *testing.T) {
	count := "g00k01+00s00J00" // five instructions a round
	testRuns(t, "P6", []runCase{
		{count, 1, 3, "", "000", "R", "----", noCell},
		{count, 1, 4, "", "0000", "R", "----", "[1 0 0 0 0 0 0 0]"},
		{count, 4, 1, "", "0", "R", "----", "[1 0 0 0 0 0 0 0]"},
		{count, 8, 1, "", "0", "R", "----", "[1 0 0 0 0 0 0 0]"},
		{count, 9, 1, "", "0", "R", "----", "[2 0 0 0 0 0 0 0]"},
		{count, 9, 60, "", strings.Repeat("0", 60), "R", "----", "[108 0 0 0 0 0 0 0]"},
		{"k01p00J00", 9, 60, strings.Repeat("001", 180), strings.Repeat("0", 60), "R", "----", ""},
		{count + "|X00", 3, 5, "", "01000", "RD", "----", "[2 0 0 0 0 0 0 0]"},
		{"J00|J00|J00|J00", 2, 9, "", "012301230", "RRRR", "----", ""},
	})
}

// The first n quanta are the same for every later n.
func TestP6Prefix(t *testing.T) {
	text := "A00W00k01p00R00T03J00|T01A00N00k02p00R00J00"
	for quantum := 1; quantum <= 9; quantum++ {
		longOut, _, _ := green.Out(text, quantum, 60)
		longTrace, _, _ := green.Trace(text, quantum, 60)
		for n := 0; n <= 60; n++ {
			out, _, _ := green.Out(text, quantum, n)
			trace, _, _ := green.Trace(text, quantum, n)
			if !strings.HasPrefix(longOut, out) || trace != longTrace[:n] {
				t.Errorf("P6: quantum %d, n %d: %q %q", quantum, n, out, trace)
			}
		}
	}
}

func TestP7Turns(t *testing.T) {
	testRuns(t, "P7", []runCase{
		// Behind Y, the rest of the quantum is lost.
		{"Y00k01p00X00|k02p00X00", 9, 1, "", "0", "RR", "----", ""},
		{"Y00k01p00X00|k02p00X00", 9, 3, "002001", "010", "DD", "----", ""},
		{"Y00Y00X00", 9, 3, "", "000", "D", "----", ""},
		{"k01Y00p00X00|X00", 2, 3, "001", "010", "DD", "----", ""},
		// Behind T, A of a lock that is owned, W and X too.
		{"T00k01p00X00", 9, 1, "", "0", "S", "----", ""},
		{"A00Y00R00X00|A00k01p00R00X00", 9, 2, "", "01", "RB", "0---", ""},
		{"A00W00k01p00R00X00", 9, 1, "", "0", "W", "----", ""},
		{"X00k01p00X00", 9, 2, "", "0-", "D", "----", ""},
		// A of a free lock, R and N go on.
		{"A00N00R00k01p00X00", 9, 1, "001", "0", "D", "----", ""},
		// Who is ready goes behind the queue, also when its quantum was full.
		{"k01p00X00|k02p00X00|k03p00X00", 1, 6, "001002003", "012012", "RRR", "----", ""},
		{"k01p00X00|k02p00X00|k03p00X00", 2, 4, "001002003", "0120", "DRR", "----", ""},
		{"k01p00X00|k02p00X00|k03p00X00", 3, 4, "001002003", "012-", "DDD", "----", ""},
		// Who ends does not.
		{"X00|J00", 1, 4, "", "0111", "DR", "----", ""},
	})
}

func TestP7Sleepers(t *testing.T) {
	testRuns(t, "P7", []runCase{
		// The quantum that a sleep ends with can be the sleeper's own.
		{"T00X00", 1, 1, "", "0", "S", "----", ""},
		{"T00X00", 1, 2, "", "00", "D", "----", ""},
		{"T01X00", 1, 2, "", "0-", "S", "----", ""},
		{"T01X00", 1, 3, "", "0-0", "D", "----", ""},
		{"T58X00", 1, 59, "", "0" + strings.Repeat("-", 58), "S", "----", ""},
		{"T58X00", 1, 60, "", "0" + strings.Repeat("-", 58) + "0", "D", "----", ""},
		{"T59X00", 1, 60, "", "0" + strings.Repeat("-", 59), "S", "----", ""},
		{"T99X00", 9, 60, "", "0" + strings.Repeat("-", 59), "S", "----", ""},
		// A sleep counts from the quantum that T is made in.
		{"Y00Y00T01X00", 9, 5, "", "000-0", "D", "----", ""},
		{"k00p00T01X00", 1, 5, "000", "000-0", "D", "----", ""},
		// Sleepers of one end go by their numbers, not by who slept first.
		{"Y00T01k01p00X00|T02k02p00X00", 9, 6, "001002", "010-01", "DD", "----", ""},
		{"T03X00|T02X00|T01X00", 1, 7, "", "012-012", "DDD", "----", ""},
		// Those whose sleep ends sooner are ahead.
		{"T05X00|T03X00|T01X00", 1, 7, "", "012-210", "DDD", "----", ""},
		// They go behind those who are in the queue already.
		{"T01X00|J00|J00", 1, 6, "", "012102", "DRR", "----", ""},
		{"T00X00|J00|J00", 1, 4, "", "0120", "DRR", "----", ""},
		{"T00X00|Y00X00", 1, 4, "", "0101", "DD", "----", ""},
		// But ahead of who is taken out in that quantum and goes behind again.
		{"J00|T01X00", 1, 6, "", "010010", "RD", "----", ""},
		// A sleeper holds its locks.
		{"A02T03R02X00|A02R02X00", 9, 4, "", "01--", "SB", "--0-", ""},
		{"A02T03R02X00|A02R02X00", 9, 6, "", "01--01", "DD", "----", ""},
	})
}

func TestP7NobodyReady(t *testing.T) {
	testRuns(t, "P7", []runCase{
		{"X00", 1, 4, "", "0---", "D", "----", ""},
		{"A00W00R00X00", 1, 4, "", "00--", "W", "----", ""},
		{"A00A01R01R00X00|A01A00R00R01X00", 1, 6, "", "0101--", "BB", "01--", ""},
		{"T02k07s05X00", 3, 3, "", "0--", "S", "----", ""},
		{"T02k07s05X00", 3, 5, "", "0--0-", "D", "----", "[0 0 0 0 0 7 0 0]"},
	})
}

func TestP8Numbers(t *testing.T) {
	testRuns(t, "P8", []runCase{
		{"k00p00k07p00k99p00X00", 9, 1, "000007099", "0", "D", "----", ""},
		{"k05k03-00p00X00", 9, 1, "002", "0", "D", "----", ""},
		{"k03k05-00p00X00", 9, 1, "998", "0", "D", "----", ""},
		{"k03k03-00p00X00", 9, 1, "000", "0", "D", "----", ""},
		{"k05k03+00p00X00", 9, 1, "008", "0", "D", "----", ""},
		{"k00k01-00p00X00", 9, 1, "999", "0", "D", "----", ""},
		{"k00k01-00k01+00p00X00", 9, 1, "000", "0", "D", "----", ""},
		{"k00k01-00k02+00p00X00", 9, 1, "001", "0", "D", "----", ""},
		{"k00k01-00k00k01-00+00p00X00", 9, 1, "998", "0", "D", "----", ""},
		{"k00k00k01-00-00p00X00", 9, 1, "001", "0", "D", "----", ""},
		{"k99k99+00k99+00k99+00p00X00", 9, 1, "396", "0", "D", "----", ""},
		{"k01k02k03k04k05k06p00p00p00p00p00p00X00", 9, 2, "006005004003002001", "00", "D", "----", ""},
		{"k09k05k03-00-00p00X00", 9, 1, "007", "0", "D", "----", ""},
		// What is kept is below 1000, not only what is printed.
		{"k00k01-00k01+00s00X00", 9, 1, "", "0", "D", "----", noCell},
		{"k00k01-00k00k01-00+00s03X00", 9, 1, "", "0", "D", "----", "[0 0 0 998 0 0 0 0]"},
		{"k00k01-00k01+00Z08k05p00X00", 9, 1, "", "0", "D", "----", ""},
		{"k03k03-00Z06k05p00X00", 9, 1, "", "0", "D", "----", ""},
		// Each thread has a stack of its own.
		{"k01k02p00p00X00|k03k04p00p00X00", 1, 8, "002004001003", "01010101", "RR", "----", ""},
	})
}

func TestP8Cells(t *testing.T) {
	testRuns(t, "P8", []runCase{
		{"k10s00k11s01k12s02k13s03k14s04k15s05k16s06k17s07X00", 9, 2, "", "00", "D", "----", "[10 11 12 13 14 15 16 17]"},
		{"k07s03g03g03p00s04X00", 9, 1, "007", "0", "D", "----", "[0 0 0 7 7 0 0 0]"},
		{"k00k01-00s07g07p00X00", 9, 1, "999", "0", "D", "----", "[0 0 0 0 0 0 0 999]"},
		{"k01s00k02s00X00", 9, 1, "", "0", "D", "----", "[2 0 0 0 0 0 0 0]"},
		{"k01k02s00s01X00", 9, 1, "", "0", "D", "----", "[2 1 0 0 0 0 0 0]"},
		// Threads share them.
		{"k42s06X00|g06p00X00", 9, 2, "042", "01", "DD", "----", "[0 0 0 0 0 0 42 0]"},
		{"k42s06X00|g06p00X00", 1, 4, "000", "0101", "RR", "----", "[0 0 0 0 0 0 42 0]"},
	})
}

func TestP8Jumps(t *testing.T) {
	testRuns(t, "P8", []runCase{
		{"J03k01p00X00", 9, 1, "", "0", "D", "----", ""},
		{"k00Z04k01p00X00", 9, 1, "", "0", "D", "----", ""},
		{"k01Z04k02p00X00", 9, 1, "002", "0", "D", "----", ""},
		{"k05k00Z03p00X00", 9, 1, "005", "0", "D", "----", ""},
		{"k05k01Z03p00X00", 9, 1, "005", "0", "D", "----", ""},
		{"k02s00g00Z09g00k01-00s00J02g00p00X00", 9, 3, "000", "000", "D", "----", ""},
		// A jump counts as an instruction, and so does one to itself.
		{"J01J02J03k01p00X00", 4, 1, "", "0", "R", "----", ""},
		{"J01J02J03k01p00X00", 5, 1, "001", "0", "R", "----", ""},
		{"k00Z00X00", 9, 60, "", strings.Repeat("0", 60), "R", "----", ""},
		// Each thread goes through its own code.
		{"X00|J03k01p00k02p00X00", 9, 2, "002", "01", "DD", "----", ""},
	})
}

func TestP8Ask(t *testing.T) {
	testRuns(t, "P8", []runCase{
		{"A00Y00R00X00", 9, 1, "", "0", "R", "0---", ""},
		{"A03A01Y00R01R03X00", 9, 1, "", "0", "R", "-0-0", ""},
		{"X00|A02Y00R02X00", 9, 2, "", "01", "DR", "--1-", ""},
		{"A00Y00R00X00|A01Y00R01X00|A02Y00R02X00|A03Y00R03X00", 9, 4, "", "0123", "RRRR", "0123", ""},
		{"A00Y00R00X00|A00R00X00|A00R00X00|A00R00X00", 9, 4, "", "0123", "RBBB", "0---", ""},
		// Blocked ones get the lock by how long they have been blocked, not
		// by their numbers.
		{"A00T02R00X00|Y00Y00A00k01p00R00X00|Y00A00k02p00R00X00|A00k03p00R00X00", 9, 11, "003002001",
			"01231201321", "DDDD", "----", ""},
	})
}

func TestP8GiveBack(t *testing.T) {
	text := "A00Y00R00k01p00X00|A00k02p00R00X00"
	testRuns(t, "P8", []runCase{
		{text, 1, 2, "", "01", "RB", "0---", ""},
		{text, 1, 3, "", "010", "RB", "0---", ""},
		// Who gets the lock owns it at once, is ready, and goes behind the
		// queue ahead of who gave it back.
		{text, 1, 4, "", "0100", "RR", "1---", ""},
		// It goes on behind its A, and does not ask again.
		{text, 1, 5, "", "01001", "RR", "1---", ""},
		{text, 1, 8, "002001", "01001010", "RR", "1---", ""},
		{text, 1, 9, "002001", "010010101", "RR", "----", ""},
		// Who gave back goes on with its quantum.
		{text, 9, 3, "001", "010", "DR", "1---", ""},
		{text, 9, 4, "001002", "0101", "DD", "----", ""},
		{"A00R00X00", 2, 1, "", "0", "R", "----", ""},
		// Others stay blocked.
		{"A00Y00R00X00|A00Y00R00X00|A00Y00R00X00", 9, 4, "", "0120", "DRB", "1---", ""},
		{"A00Y00R00X00|A00Y00R00X00|A00Y00R00X00", 9, 5, "", "01201", "DRB", "1---", ""},
		{"A00Y00R00X00|A00Y00R00X00|A00Y00R00X00", 9, 6, "", "012011", "DDR", "2---", ""},
		{"A00Y00R00X00|A00Y00R00X00|A00Y00R00X00", 9, 8, "", "01201122", "DDD", "----", ""},
		// R of one lock leaves those blocked at another.
		{"A00A01Y00R01J06X00Y00R00X00|A00R00X00|A01R01X00", 9, 4, "", "0120", "RBR", "02--", ""},
		// Asking again goes behind those who are blocked.
		{"A00Y00R00A00k01p00R00X00|A00k02p00R00X00", 9, 5, "002001", "01010", "DD", "----", ""},
	})
}

func TestP8Wait(t *testing.T) {
	testRuns(t, "P8", []runCase{
		{"A00W00R00X00", 9, 1, "", "0", "W", "----", ""},
		{"A01A00W00R00R01X00", 9, 1, "", "0", "W", "-0--", ""},
		// W hands the lock on as R does.
		{"A00Y00W00R00X00|A00Y00R00X00", 9, 3, "", "010", "WR", "1---", ""},
		{"A00Y00W00R00X00|A00k01p00R00X00|A00k02p00R00X00", 9, 6, "001002", "012012", "WDD", "----", ""},
		// Who waits is not woken by a lock that is given back.
		{"A00W00R00X00|A00R00X00|A00R00X00", 9, 5, "", "012--", "WDD", "----", ""},
	})
}

func TestP8Wake(t *testing.T) {
	testRuns(t, "P8", []runCase{
		{"A00W00k01p00R00X00|A00N00Y00R00X00", 9, 2, "", "01", "BR", "1---", ""},
		{"A00W00k01p00R00X00|A00N00Y00R00X00", 9, 3, "", "011", "RD", "0---", ""},
		{"A00W00k01p00R00X00|A00N00Y00R00X00", 9, 4, "001", "0110", "DD", "----", ""},
		// One at a time, and who has waited longest first.
		{"T00A00W00k00p00R00X00|A00W00k01p00R00X00|A00N00Y00R00X00", 9, 4, "", "0120", "BBR", "2---", ""},
		{"Y00A00W00k00p00R00X00|A00W00k01p00R00X00|T01A00N00R00T01A00N00R00X00", 9, 9, "001000", "01202120-", "DDD", "----", ""},
		{"A00W00k00p00R00X00|A00W00k01p00R00X00|A00N00N00R00X00", 9, 5, "000001", "01201", "DDD", "----", ""},
		{"A00W00k00p00R00X00|A00W00k01p00R00X00|A00N00R00X00", 9, 5, "000", "0120-", "DWD", "----", ""},
		// If nobody waits, N does nothing, and nothing is kept of it.
		{"A00N00R00X00|A00W00k01p00R00X00", 9, 4, "", "01--", "DW", "----", ""},
		// The locks have waiters of their own.
		{"A00W00R00X00|A01N01R01X00", 9, 4, "", "01--", "WD", "----", ""},
		{"A00W00k00p00R00X00|A03W03k03p00R03X00|A03N03R03X00", 9, 5, "003", "0121-", "WDD", "----", ""},
		// A woken one is behind those who are blocked.
		{"A00W00k01p00R00X00|A00Y00N00R00X00|A00k02p00R00X00", 9, 4, "", "0121", "BDR", "2---", ""},
		{"A00W00k01p00R00X00|A00Y00N00R00X00|A00k02p00R00X00", 9, 6, "002001", "012120", "DDD", "----", ""},
		// Ahead of those who come later.
		{"A00W00k01p00R00X00|A00N00Y00R00X00|A00k02p00R00X00", 9, 6, "001002", "012102", "DDD", "----", ""},
		// Who wakes and waits hands the lock to the one that it woke.
		{"A00W00k01p00N00R00X00|A00N00W00k02p00R00X00", 9, 5, "001002", "0101-", "DD", "----", ""},
		// N of a lock that is not the last of the row.
		{"A00W00k01p00R00X00|A00A01N00R01R00X00", 9, 4, "001", "010-", "DD", "----", ""},
	})
}

func TestP8End(t *testing.T) {
	testRuns(t, "P8", []runCase{
		{"X00|J00", 1, 1, "", "0", "DR", "----", ""},
		{"J00|X00", 1, 2, "", "01", "RD", "----", ""},
		{"k01k02X00", 9, 3, "", "0--", "D", "----", ""},
	})
}

func TestP9Letters(t *testing.T) {
	testRuns(t, "P9", []runCase{
		{"A00A01W01R01R00X00|A00R00X00|T50X00|X00", 9, 4, "", "0123", "WBSD", "0---", ""},
		{"X00|T50X00|A03Y00R03X00|A03R03X00", 9, 4, "", "0123", "DSRB", "---2", ""},
	})
}

// An answer is new memory: who changes one changes no later one.
func TestP2Cells(t *testing.T) {
	text := "k05s02X00"
	first, _, _ := green.Cells(text, 9, 1)
	second, _, _ := green.Cells(text, 9, 1)
	for i := range first {
		first[i] = 77
	}
	third, _, _ := green.Cells(text, 9, 1)
	if want := "[0 0 5 0 0 0 0 0]"; fmt.Sprint(second) != want || fmt.Sprint(third) != want {
		t.Errorf("P2: Cells = %v, then %v, want %s", second, third, want)
	}
}

func TestP2Runs(t *testing.T) {
	texts := []string{"X00", "k05s02A01T50R01X00", "A00W00R00X00|A00k01p00Y00R00X00", "T03g02p00X00|Y00J00"}
	first := []string{}
	for _, text := range texts {
		first = append(first, tellRun(t, text, 2, 9))
	}
	for _, ahead := range texts {
		for i, text := range texts {
			tellRun(t, ahead, 3, 60)
			if got := tellRun(t, text, 2, 9); got != first[i] {
				t.Errorf("P2: %q behind %q: %s, first %s", text, ahead, got, first[i])
			}
		}
	}
}
