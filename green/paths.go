package green

const maxHeight = 6

// A row of held locks is one number, so that it can be part of an index: to
// base rowBase, a digit for each lock, its number and 1, the last lock lowest.
// No lock is in a row twice, so rowCount is above all rows.
const (
	rowBase  = lockCount + 1
	rowCount = rowBase * rowBase * rowBase * rowBase
)

// spot is what a path has at a place of a code.
type spot struct {
	place  int
	height int
	row    int
}

// walk finds all spots that some path through a code has.
type walk struct {
	list  []instruction
	seen  []bool // at each spot's index
	spots []spot
}

func withLock(row int, lock int) int {
	return row*rowBase + lock + 1
}

func withoutLast(row int) int {
	return row / rowBase
}

func isLast(row int, lock int) bool {
	return row%rowBase == lock+1
}

func isHeld(row int, lock int) bool {
	for row > 0 {
		if isLast(row, lock) {
			return true
		}
		row = withoutLast(row)
	}
	return false
}

func taken(letter byte) int {
	switch letter {
	case '+', '-':
		return 2
	case 's', 'p', 'Z':
		return 1
	}
	return 0
}

func pushed(letter byte) int {
	switch letter {
	case 'k', 'g', '+', '-':
		return 1
	}
	return 0
}

func stackWrong(in instruction, height int) bool {
	left := height - taken(in.letter)
	if left < 0 {
		return true
	}
	return left+pushed(in.letter) > maxHeight
}

func lockWrong(in instruction, row int) bool {
	switch in.letter {
	case 'A':
		return isHeld(row, in.arg)
	case 'R', 'W':
		return !isLast(row, in.arg)
	case 'N':
		return !isHeld(row, in.arg)
	case 'X':
		return row != 0
	}
	return false
}

// wrongAt is the error that ends a path at an instruction.
func wrongAt(in instruction, s spot) Errno {
	if stackWrong(in, s.height) {
		return ErrStack
	}
	if lockWrong(in, s.row) {
		return ErrLock
	}
	return OK
}

// reach notes a spot once; that each is noted once is why walks end.
func (w *walk) reach(s spot) {
	index := (s.place*rowCount+s.row)*(maxHeight+1) + s.height
	if index < 0 || index >= len(w.seen) {
		return
	}
	if w.seen[index] {
		return
	}
	w.seen[index] = true
	w.spots = append(w.spots, s)
}

func (w *walk) goOn(s spot) {
	if s.place < 0 || s.place >= len(w.list) {
		return
	}
	in := w.list[s.place]
	wrong := wrongAt(in, s)
	if wrong != OK {
		return
	}
	height := s.height - taken(in.letter)
	height = height + pushed(in.letter)
	row := s.row
	switch in.letter {
	case 'A':
		row = withLock(row, in.arg)
	case 'R':
		row = withoutLast(row)
	}
	if in.letter == 'J' || in.letter == 'Z' {
		w.reach(spot{in.arg, height, row})
	}
	if in.letter != 'J' && in.letter != 'X' {
		w.reach(spot{s.place + 1, height, row})
	}
}

// allSpots does not stop at a place where paths disagree: each of them goes
// on, and may make a lower place wrong.
func allSpots(list []instruction) []spot {
	places := len(list) + 1
	w := walk{list: list, seen: make([]bool, places*rowCount*(maxHeight+1))}
	w.reach(spot{0, 0, 0})
	for i := 0; i < len(w.spots); i++ {
		s := w.spots[i]
		w.goOn(s)
	}
	return w.spots
}

// codeError tells the error at the lowest place of a code that has one, and
// that place.
func codeError(list []instruction) (Errno, int) {
	count := make([]int, len(list)+1)
	wrong := make([]Errno, len(list)+1)
	for _, s := range allSpots(list) {
		if s.place < 0 || s.place >= len(count) {
			continue
		}
		count[s.place]++
		if s.place < len(list) {
			wrong[s.place] = wrongAt(list[s.place], s)
		} else {
			wrong[s.place] = ErrEnd
		}
	}
	for place := range count {
		// Behind the last instruction ErrEnd goes ahead of ErrMeet: the
		// document names it first.
		if count[place] > 1 && place < len(list) {
			return ErrMeet, place
		}
		if wrong[place] != OK {
			return wrong[place], place
		}
	}
	return OK, 0
}
