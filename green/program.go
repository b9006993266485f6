package green

const (
	maxText    = 400
	maxThreads = 4
	cellCount  = 8
	lockCount  = 4
)

// width is the number of bytes of an instruction in a text.
const width = 3

type instruction struct {
	letter byte
	arg    int
}

// code is one thread's part of a program.
type code struct {
	start int // where its first instruction stands in the text
	list  []instruction
}

// placeInText also serves the place behind the last instruction: the byte
// there is the | or the end of the text.
func (c code) placeInText(number int) int {
	return c.start + width*number
}

func isLetter(b byte) bool {
	switch b {
	case 'k', 'g', 's', '+', '-', 'p', 'J', 'Z', 'A', 'R', 'W', 'N', 'T', 'Y', 'X':
		return true
	}
	return false
}

func isDigit(b byte) bool {
	return b >= '0' && b <= '9'
}

// isProgram leaves aside which arguments are allowed. Its number is the first
// byte that no program goes on with, or the text's length if bytes are missing.
func isProgram(text string) (bool, int) {
	codes := 1
	empty := true // the code at hand has no whole instruction yet
	part := 0     // how many bytes of an instruction have been read
	for i := 0; i < len(text); i++ {
		b := text[i]
		if part > 0 {
			if !isDigit(b) {
				return false, i
			}
			part++
			if part == width {
				part = 0
				empty = false
			}
		} else if isLetter(b) {
			part = 1
		} else if b == '|' && !empty && codes < maxThreads {
			codes++
			empty = true
		} else {
			return false, i
		}
	}
	if part > 0 || empty {
		return false, len(text)
	}
	return true, 0
}

// readCodes expects a text that isProgram has accepted.
func readCodes(text string) []code {
	codes := []code{}
	current := code{}
	i := 0
	for i < len(text) {
		if text[i] == '|' {
			codes = append(codes, current)
			i++
			current = code{start: i}
			continue
		}
		if len(text)-i < width {
			break
		}
		arg := int(text[i+1]-'0')*10 + int(text[i+2]-'0')
		current.list = append(current.list, instruction{text[i], arg})
		i += width
	}
	codes = append(codes, current)
	return codes
}

// argAllowed needs the size of the code because a jump may only go to one of
// the code's own instructions.
func argAllowed(in instruction, size int) bool {
	switch in.letter {
	case 'k', 'T':
		return true
	case 'g', 's':
		return in.arg < cellCount
	case 'A', 'R', 'W', 'N':
		return in.arg < lockCount
	case 'J', 'Z':
		return in.arg < size
	}
	return in.arg == 0
}

// badArg tells whether there is an argument that is not allowed, and where in
// the text the first one's instruction stands.
func badArg(codes []code) (bool, int) {
	for _, c := range codes {
		for i, in := range c.list {
			if !argAllowed(in, len(c.list)) {
				return true, c.placeInText(i)
			}
		}
	}
	return false, 0
}

// read makes a program's codes out of a text, or tells its ErrLong, ErrText or
// ErrArg and the place.
func read(text string) ([]code, Errno, int) {
	if len(text) > maxText {
		return nil, ErrLong, 0
	}
	good, place := isProgram(text)
	if !good {
		return nil, ErrText, place
	}
	codes := readCodes(text)
	bad, where := badArg(codes)
	if bad {
		return nil, ErrArg, where
	}
	return codes, OK, 0
}
