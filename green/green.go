// Package green: a small machine for threads, a checker of their code, and a finder of deadlocks: see DOC.md.
package green

// Errno is what a call answers: OK or the reason for a refusal.
type Errno int

const (
	OK       Errno = 0
	ErrLong  Errno = 1 // a text above its bound
	ErrText  Errno = 2 // no program
	ErrArg   Errno = 3 // an argument that is not allowed
	ErrMeet  Errno = 4 // two paths that do not agree
	ErrStack Errno = 5 // too few or too many numbers
	ErrLock  Errno = 6 // a lock out of turn
	ErrEnd   Errno = 7 // a path that leaves the code
	ErrRange Errno = 8 // a quantum or a time that may not be
)

// Check tells whether a program can go wrong (P3 to P5).
func Check(text string) (Errno, int) {
	codes, refused, place := read(text)
	if refused != OK {
		return refused, place
	}
	for _, c := range codes {
		wrong, number := codeError(c.list)
		if wrong != OK {
			return wrong, c.placeInText(number)
		}
	}
	return OK, 0
}

// Out tells what was printed (P6 to P9).
func Out(text string, quantum int, n int) (string, Errno, int) { return "", 0, 0 }

// Trace tells who had which quantum.
func Trace(text string, quantum int, n int) (string, Errno, int) { return "", 0, 0 }

// Cells tells the cells.
func Cells(text string, quantum int, n int) ([]int, Errno, int) { return nil, 0, 0 }

// States tells the threads' states.
func States(text string, quantum int, n int) (string, Errno, int) { return "", 0, 0 }

// Owners tells who owns the locks.
func Owners(text string, quantum int, n int) (string, Errno, int) { return "", 0, 0 }

// Log tells the deadlocks (P10).
func Log(text string, quantum int, n int) (string, Errno, int) { return "", 0, 0 }
