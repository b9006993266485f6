package green

const (
	maxQuantum = 9
	maxTime    = 60
)

// nobody stands where else a thread's number does.
const nobody = -1

// line is a row of threads' numbers: who came first goes first.
type line struct {
	numbers []int
}

type lock struct {
	owner   int
	blocked line
	waiting line
}

type machine struct {
	threads []thread
	cells   [cellCount]int
	locks   [lockCount]lock
	queue   line
	printed []byte
	trace   []byte
	log     []byte
}

func (l *line) join(number int) {
	l.numbers = append(l.numbers, number)
}

// leave takes the first one out; it answers nobody if there is none.
func (l *line) leave() int {
	if len(l.numbers) == 0 {
		return nobody
	}
	first := l.numbers[0]
	l.numbers = l.numbers[1:]
	return first
}

func newMachine(codes []code) machine {
	m := machine{}
	for i := range m.locks {
		m.locks[i].owner = nobody
	}
	for i, c := range codes {
		m.threads = append(m.threads, thread{list: c.list, state: ready})
		m.queue.join(i)
	}
	return m
}

func nameOf(number int) byte {
	if number < 0 || number >= maxThreads {
		return '-'
	}
	return byte('0' + number)
}

func (m *machine) setState(number int, state byte) {
	if number < 0 || number >= len(m.threads) {
		return
	}
	m.threads[number].state = state
}

func (m *machine) makeReady(number int) {
	m.setState(number, ready)
	m.queue.join(number)
}

func (m *machine) print(value int) {
	m.printed = append(m.printed, byte('0'+value/100%10))
	m.printed = append(m.printed, byte('0'+value/10%10))
	m.printed = append(m.printed, byte('0'+value%10))
}

func (m *machine) block(number int, name int) {
	if number < 0 || number >= len(m.threads) || name < 0 || name >= lockCount {
		return
	}
	m.locks[name].blocked.join(number)
	m.threads[number].state = blocked
	m.threads[number].blockedAt = name
}

func (m *machine) ask(number int, name int) {
	if name < 0 || name >= lockCount {
		return
	}
	if m.locks[name].owner == nobody {
		m.locks[name].owner = number
		return
	}
	m.block(number, name)
}

// giveBack leaves the next instruction of the thread that gets the lock alone:
// since its A or W it is the one behind.
func (m *machine) giveBack(name int) {
	if name < 0 || name >= lockCount {
		return
	}
	heir := m.locks[name].blocked.leave()
	m.locks[name].owner = heir
	if heir != nobody {
		m.makeReady(heir)
	}
}

func (m *machine) wait(number int, name int) {
	if name < 0 || name >= lockCount {
		return
	}
	m.giveBack(name)
	m.locks[name].waiting.join(number)
	m.setState(number, waiting)
}

// wakeWaiting needs no look at the owner: only who holds a lock may wake, so
// the lock is never free here.
func (m *machine) wakeWaiting(name int) {
	if name < 0 || name >= lockCount {
		return
	}
	woken := m.locks[name].waiting.leave()
	if woken != nobody {
		m.block(woken, name)
	}
}

func (m *machine) load(cell int) int {
	if cell < 0 || cell >= cellCount {
		return 0
	}
	return m.cells[cell]
}

func (m *machine) store(cell int, value int) {
	if cell < 0 || cell >= cellCount {
		return
	}
	m.cells[cell] = value
}

// step makes the next instruction of a thread in the quantum now, and tells
// whether its turn may go on.
func (m *machine) step(number int, now int) bool {
	if number < 0 || number >= len(m.threads) {
		return false
	}
	in := m.threads[number].current()
	m.threads[number].next++
	switch in.letter {
	case 'g':
		value := m.load(in.arg)
		m.threads[number].push(value)
	case 's':
		value := m.threads[number].pop()
		m.store(in.arg, value)
	case 'p':
		value := m.threads[number].pop()
		m.print(value)
	case 'A':
		m.ask(number, in.arg)
	case 'R':
		m.giveBack(in.arg)
	case 'W':
		m.wait(number, in.arg)
	case 'N':
		m.wakeWaiting(in.arg)
	case 'T':
		m.threads[number].sleepUntil(now + 1 + in.arg)
	default:
		m.threads[number].perform(in)
	}
	return m.threads[number].state == ready && in.letter != 'Y'
}

func (m *machine) wakeSleepers(now int) {
	for i := range m.threads {
		if m.threads[i].state == asleep && m.threads[i].wakeAt == now {
			m.makeReady(i)
		}
	}
}

func (m *machine) turn(number int, now int, most int) {
	for i := 0; i < most; i++ {
		more := m.step(number, now)
		if !more {
			return
		}
	}
}

func (m *machine) isReady(number int) bool {
	if number < 0 || number >= len(m.threads) {
		return false
	}
	return m.threads[number].state == ready
}

// quantum makes the quantum with the number now, of at most so many
// instructions.
func (m *machine) quantum(now int, most int) {
	m.wakeSleepers(now)
	number := m.queue.leave()
	m.trace = append(m.trace, nameOf(number))
	if number == nobody {
		return
	}
	m.turn(number, now, most)
	stays := m.isReady(number)
	if stays {
		m.queue.join(number)
	}
	m.logDeadlock(number, now)
}

// prepare makes a program's codes out of a machine's arguments, or tells why
// not.
func prepare(text string, quantum int, n int) ([]code, Errno, int) {
	codes, refused, place := checked(text)
	if refused != OK {
		return nil, refused, place
	}
	if quantum < 1 || quantum > maxQuantum || n < 0 || n > maxTime {
		return nil, ErrRange, 0
	}
	return codes, OK, 0
}

// run answers a program's machine behind n quanta.
func run(text string, quantum int, n int) (machine, Errno, int) {
	codes, refused, place := prepare(text, quantum, n)
	if refused != OK {
		return machine{}, refused, place
	}
	m := newMachine(codes)
	for now := 0; now < n; now++ {
		m.quantum(now, quantum)
	}
	return m, OK, 0
}
