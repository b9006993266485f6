package green

// The numbers that the machine keeps are below modulus.
const modulus = 1000

// The states of a thread are the letters that States answers.
const (
	ready   byte = 'R'
	blocked byte = 'B'
	waiting byte = 'W'
	asleep  byte = 'S'
	done    byte = 'D'
)

type thread struct {
	list      []instruction
	next      int // the number of the instruction that it makes next
	stack     [maxHeight]int
	height    int
	state     byte
	wakeAt    int // the quantum that its sleep ends with
	blockedAt int // the lock that it is blocked at, if it is blocked
}

// current ends a thread that has left its code rather than index outside of
// it; no thread of a checked program does.
func (t *thread) current() instruction {
	if t.next < 0 || t.next >= len(t.list) {
		return instruction{'X', 0}
	}
	return t.list[t.next]
}

func (t *thread) push(value int) {
	if t.height < 0 || t.height >= maxHeight {
		return
	}
	t.stack[t.height] = value
	t.height++
}

func (t *thread) pop() int {
	if t.height <= 0 || t.height > maxHeight {
		return 0
	}
	t.height--
	return t.stack[t.height]
}

func (t *thread) add() {
	b := t.pop()
	a := t.pop()
	t.push((a + b) % modulus)
}

// subtract adds modulus first: what % answers for a number below 0 is below 0.
func (t *thread) subtract() {
	b := t.pop()
	a := t.pop()
	t.push((a - b + modulus) % modulus)
}

func (t *thread) jumpIfZero(target int) {
	value := t.pop()
	if value == 0 {
		t.next = target
	}
}

func (t *thread) sleepUntil(quantum int) {
	t.state = asleep
	t.wakeAt = quantum
}

// perform makes an instruction that touches nothing but the thread itself.
func (t *thread) perform(in instruction) {
	switch in.letter {
	case 'k':
		t.push(in.arg)
	case '+':
		t.add()
	case '-':
		t.subtract()
	case 'J':
		t.next = in.arg
	case 'Z':
		t.jumpIfZero(in.arg)
	case 'X':
		t.state = done
	}
}
