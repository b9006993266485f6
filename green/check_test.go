package green_test

import (
	"math"
	"strings"
	"testing"

	"green/green"
)

type checkCase struct {
	text  string
	want  green.Errno
	place int
}

func testCases(t *testing.T, promise string, cases []checkCase) {
	t.Helper()
	for _, c := range cases {
		got, place := green.Check(c.text)
		if got != c.want || place != c.place {
			t.Errorf("%s: Check(%.80q) = %d %d, want %d %d", promise, c.text, got, place, c.want, c.place)
		}
	}
}

func TestErrnoNumbers(t *testing.T) {
	names := []green.Errno{green.OK, green.ErrLong, green.ErrText, green.ErrArg, green.ErrMeet,
		green.ErrStack, green.ErrLock, green.ErrEnd, green.ErrRange}
	for want, got := range names {
		if int(got) != want {
			t.Errorf("error %d has the number %d", want, got)
		}
	}
}

func TestP1Long(t *testing.T) {
	testCases(t, "P1", []checkCase{
		{strings.Repeat("Y00", 132) + "X00", green.OK, 0},
		{strings.Repeat("Y00", 131) + "X00|X00", green.OK, 0}, // 400 bytes
		{strings.Repeat("Y00", 131) + "X00|X00|", green.ErrLong, 0},
		{strings.Repeat("x", 400), green.ErrText, 0},
		{strings.Repeat("x", 401), green.ErrLong, 0},
		{strings.Repeat("X99", 133), green.ErrArg, 0},
		{strings.Repeat("X99", 134), green.ErrLong, 0},
		{strings.Repeat("p00", 133), green.ErrStack, 0},
		{strings.Repeat("p00", 134), green.ErrLong, 0},
		{strings.Repeat("\x00", 1<<24), green.ErrLong, 0},
		{strings.Repeat("é", 200), green.ErrText, 0},
		{strings.Repeat("é", 201), green.ErrLong, 0},
	})
}

func TestP1CallsEnd(t *testing.T) {
	numbers := []int{math.MinInt, -1, 0, 1, 9, 10, 60, 61, math.MaxInt}
	for _, text := range []string{"", "|", "X00", "J00", "k", "\xff\x00", strings.Repeat("X00", 1000)} {
		for _, quantum := range numbers {
			for _, n := range numbers {
				green.Out(text, quantum, n)
				green.Trace(text, quantum, n)
				green.Cells(text, quantum, n)
				green.States(text, quantum, n)
				green.Owners(text, quantum, n)
				green.Log(text, quantum, n)
			}
		}
	}
}

func TestP2NothingIsKept(t *testing.T) {
	texts := []string{"X00", "k01J00", "", "A00X00", "Y00", "X00|p00X00", "X01", strings.Repeat("Y", 401), "J00"}
	firstError := make([]green.Errno, len(texts))
	firstPlace := make([]int, len(texts))
	for i, text := range texts {
		firstError[i], firstPlace[i] = green.Check(text)
	}
	for _, ahead := range texts {
		for i, text := range texts {
			green.Check(ahead)
			got, place := green.Check(text)
			if got != firstError[i] || place != firstPlace[i] {
				t.Errorf("P2: Check(%.40q) behind Check(%.40q) = %d %d, first %d %d",
					text, ahead, got, place, firstError[i], firstPlace[i])
			}
		}
	}
}

func TestP3Text(t *testing.T) {
	testCases(t, "P3", []checkCase{
		{"", green.ErrText, 0},
		{"|", green.ErrText, 0},
		{"0", green.ErrText, 0},
		{"K00", green.ErrText, 0},
		{"j00", green.ErrText, 0},
		{" X00", green.ErrText, 0},
		{"X", green.ErrText, 1},
		{"X ", green.ErrText, 1},
		{"X|", green.ErrText, 1},
		{"X0", green.ErrText, 2},
		{"X0|", green.ErrText, 2},
		{"XX0", green.ErrText, 1},
		{"X0/", green.ErrText, 2},
		{"X0:", green.ErrText, 2},
		{"X/0", green.ErrText, 1},
		{"X:0", green.ErrText, 1},
		{"X0٣", green.ErrText, 2},
		{"X00\n", green.ErrText, 3},
		{"X00\x00", green.ErrText, 3},
		{"X000", green.ErrText, 3},
		{"X00Xx", green.ErrText, 4},
		{"X00|", green.ErrText, 4},
		{"X00|X", green.ErrText, 5},
		{"X00||X00", green.ErrText, 4},
		{"|X00", green.ErrText, 0},
		{"X00|X00|X00|X0", green.ErrText, 14},
		{"X00|X00|X00|X00", green.OK, 0},
		{"X00|X00|X00|X00|", green.ErrText, 15},
		{"X00|X00|X00|X00|X00", green.ErrText, 15},
		{"Y00X00|Y00X00|Y00X00|Y00X00|X00", green.ErrText, 27},
		// That a text is too long is ErrLong's alone: bytes behind the 400th
		// could still make these a program.
		{strings.Repeat("Y00", 133) + "X", green.ErrText, 400},
		{strings.Repeat("Y00", 133) + "|", green.ErrText, 400},
	})
}

func TestP3Arguments(t *testing.T) {
	testCases(t, "P3", []checkCase{
		{"k00X00", green.OK, 0}, {"k99X00", green.OK, 0},
		{"T00X00", green.OK, 0}, {"T99X00", green.OK, 0},
		{"g07X00", green.OK, 0}, {"g08X00", green.ErrArg, 0}, {"g99X00", green.ErrArg, 0},
		{"k00s07X00", green.OK, 0}, {"k00s08X00", green.ErrArg, 3},
		{"k00k00+00X00", green.OK, 0}, {"k00k00+01X00", green.ErrArg, 6},
		{"k00k00-00X00", green.OK, 0}, {"k00k00-10X00", green.ErrArg, 6},
		{"k00p00X00", green.OK, 0}, {"k00p01X00", green.ErrArg, 3},
		{"J01X00", green.OK, 0}, {"J02X00", green.ErrArg, 0},
		{"k00Z02X00", green.OK, 0}, {"k00Z03X00", green.ErrArg, 3},
		{"A03R03X00", green.OK, 0}, {"A04R03X00", green.ErrArg, 0}, {"A03R04X00", green.ErrArg, 3},
		{"A03W03R03X00", green.OK, 0}, {"A03W04R03X00", green.ErrArg, 3},
		{"A03N03R03X00", green.OK, 0}, {"A03N04R03X00", green.ErrArg, 3},
		{"Y00X00", green.OK, 0}, {"Y01X00", green.ErrArg, 0},
		{"X00", green.OK, 0}, {"X01", green.ErrArg, 0}, {"X10", green.ErrArg, 0},
		// A jump counts the instructions of its own code alone.
		{"X00|Y00Y00J02", green.OK, 0},
		{"X00|Y00Y00J03", green.ErrArg, 10},
		{"J01|X00X00", green.ErrArg, 0},
		// Also where no path comes.
		{"X00X01", green.ErrArg, 3},
	})
}

func TestP3Order(t *testing.T) {
	testCases(t, "P3", []checkCase{
		{"X01|X", green.ErrText, 5},
		{"p00|X|", green.ErrText, 5},
		{"p00X00|X01", green.ErrArg, 7},
		{"X99|X98", green.ErrArg, 0},
		{"X00|X00|X98|X99", green.ErrArg, 8},
		{"X00|X00|X00|p00", green.ErrStack, 12},
		{"Y00|p00X00", green.ErrEnd, 3},
		{"X00|Y00|p00X00", green.ErrEnd, 7},
		{"X00|Y00R00|p00X00", green.ErrLock, 7},
		{"Y00Y00Y00R00|k01J00", green.ErrLock, 9},
		// The lowest place counts, not the error that is named first.
		{"g00Z04p00X00k01g00Z04", green.ErrStack, 6},
		{"g00Z04R00X00k01g00Z04", green.ErrLock, 6},
		{"g00Z03p00Y00", green.ErrStack, 6},
		// Nor the one that a path meets first.
		{"J02R00g00Z01p00X00", green.ErrLock, 3},
		{"J02p00g00Z01R00X00", green.ErrStack, 3},
	})
}

func TestP4Paths(t *testing.T) {
	testCases(t, "P4", []checkCase{
		{"J00", green.OK, 0},
		{"X00p00R00", green.OK, 0},
		{"J02p00X00", green.OK, 0},
		{"k00Z00X00", green.OK, 0},
		{"J02R00p00J01", green.ErrStack, 6},
		{"J02p00R00J01", green.ErrLock, 6},
		{"J02R00k00k00k00k00k00k00k00J01", green.ErrStack, 24},
		{"J02p00A00A00J01", green.ErrLock, 9},
		{"g00Z03p00X00", green.ErrStack, 6},
		{"g00Z03X00p00", green.ErrStack, 9},
		// Behind a place where they disagree, all paths go on: place 1 comes
		// to be with both heights, with both rows.
		{"J03p00X00g00Z06k01g00Z01X00", green.ErrMeet, 3},
		{"J03Y00X00g00Z06A01g00Z01X00", green.ErrMeet, 3},
		// A path goes round until its stack is full, and then no farther.
		{"J03p00X00k01g00Z03k00J01", green.ErrMeet, 3},
		{"J03R00X00k01J03", green.ErrMeet, 9},
		// W and N leave the row as it is, A and R do not.
		{"A00W00X00", green.ErrLock, 6},
		{"A00N00X00", green.ErrLock, 6},
		{"A00A01W01N00R01W00R00X00", green.OK, 0},
		{"A00R00A00R00X00", green.OK, 0},
		{"A00A01A02A03R03R02R01R00X00", green.OK, 0},
		{"A03A02A01A00R00R01R02R03X00", green.OK, 0},
		{"A00A01R01A02R02R00X00", green.OK, 0},
	})
}

func TestP5End(t *testing.T) {
	testCases(t, "P5", []checkCase{
		{"Y00", green.ErrEnd, 3},
		{"T05", green.ErrEnd, 3},
		{"A00", green.ErrEnd, 3},
		{"A00R00", green.ErrEnd, 6},
		{"A00W00", green.ErrEnd, 6},
		{"A00N00", green.ErrEnd, 6},
		{"g00s00", green.ErrEnd, 6},
		{"k00Z00", green.ErrEnd, 6},
		{"Y00|X00", green.ErrEnd, 3},
		{"X00|Y00", green.ErrEnd, 7},
		{"X00|Y00|X00", green.ErrEnd, 7},
		{"X00Y00", green.OK, 0},
		{"Y00J00", green.OK, 0},
	})
}

func TestP5Meet(t *testing.T) {
	testCases(t, "P5", []checkCase{
		{"k01J00", green.ErrMeet, 0},
		{"A00J00", green.ErrMeet, 0},
		{"g00Z03k01X00", green.ErrMeet, 9},
		{"g00Z03A00X00", green.ErrMeet, 9},
		{"g00Z05A00A01J07A01A00X00", green.ErrMeet, 21},
		{"g00Z04A00J05A01X00", green.ErrMeet, 15},
		{"g00Z04k01J05k02X00", green.OK, 0},
		{"g00Z04A00J05A00R00X00", green.OK, 0},
		// ErrMeet is named ahead of ErrStack and ErrLock.
		{"g00Z03k01p00X00", green.ErrMeet, 9},
		{"g00Z03A00R00X00", green.ErrMeet, 9},
		{"Y00k01J00", green.ErrMeet, 0},
		{"k01k01J01", green.ErrMeet, 3},
	})
}

func TestP5Stack(t *testing.T) {
	five := strings.Repeat("k01", 5)
	six := strings.Repeat("k01", 6)
	testCases(t, "P5", []checkCase{
		{"p00X00", green.ErrStack, 0},
		{"s00X00", green.ErrStack, 0},
		{"Z01X00", green.ErrStack, 0},
		{"+00X00", green.ErrStack, 0},
		{"-00X00", green.ErrStack, 0},
		{"k00+00X00", green.ErrStack, 3},
		{"k00-00X00", green.ErrStack, 3},
		{"k00k00-00p00p00X00", green.ErrStack, 12},
		{five + "k01X00", green.OK, 0},
		{five + "g00X00", green.OK, 0},
		{six + "k01X00", green.ErrStack, 18},
		{six + "g00X00", green.ErrStack, 18},
		{six + "+00k01X00", green.OK, 0},
		{six + "-00k01k01X00", green.ErrStack, 24},
		{six + "p00p00p00p00p00s00X00", green.OK, 0},
		{six + "p00p00p00p00p00s00p00X00", green.ErrStack, 36},
		{six + "Y00T01A00W00N00R00J13X00", green.OK, 0},
	})
}

func TestP5Lock(t *testing.T) {
	testCases(t, "P5", []checkCase{
		{"A00A00X00", green.ErrLock, 3},
		{"A00A01A00X00", green.ErrLock, 6},
		{"A03A02A01A00A03X00", green.ErrLock, 12},
		{"R00X00", green.ErrLock, 0},
		{"A00R01X00", green.ErrLock, 3},
		{"A00A01R00X00", green.ErrLock, 6},
		{"A00A01R01R01X00", green.ErrLock, 9},
		{"A00R00R00X00", green.ErrLock, 6},
		{"W00X00", green.ErrLock, 0},
		{"A00W01X00", green.ErrLock, 3},
		{"A00A01W00X00", green.ErrLock, 6},
		{"N00X00", green.ErrLock, 0},
		{"A00N01X00", green.ErrLock, 3},
		{"A00R00N00X00", green.ErrLock, 6},
		{"A00A01A02A03N00N01N02N03R03R02R01R00X00", green.OK, 0},
		{"A00X00", green.ErrLock, 3},
		{"A00A01R01X00", green.ErrLock, 9},
		// Each thread begins with no lock.
		{"A00J01|R00X00", green.ErrLock, 7},
		{"k01X00|p00X00", green.ErrStack, 7},
	})
}
