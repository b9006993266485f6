package green

// obstacle is the thread that owns the lock at which another one is blocked,
// or nobody.
func (m *machine) obstacle(number int) int {
	if number < 0 || number >= len(m.threads) {
		return nobody
	}
	if m.threads[number].state != blocked {
		return nobody
	}
	name := m.threads[number].blockedAt
	if name < 0 || name >= lockCount {
		return nobody
	}
	return m.locks[name].owner
}

// ring goes from obstacle to obstacle, and tells which threads it met and
// whether it came back. It counts its steps, since it never comes back out of
// a ring that the thread itself is not part of.
func (m *machine) ring(number int) ([maxThreads]bool, bool) {
	met := [maxThreads]bool{}
	at := number
	for i := 0; i < maxThreads; i++ {
		if at < 0 || at >= maxThreads {
			return met, false
		}
		met[at] = true
		at = m.obstacle(at)
		if at == number {
			return met, true
		}
	}
	return met, false
}

// logDeadlock looks at no thread but the one that had the quantum now. Only an
// A closes a ring: N blocks a thread at a lock whose owner is running, and R
// and W hand a lock to a thread that becomes ready. So a ring that is new goes
// through the one that asked last; and as that one was ready before, a ring
// that goes through it is new.
func (m *machine) logDeadlock(number int, now int) {
	met, closed := m.ring(number)
	if !closed {
		return
	}
	m.log = append(m.log, byte('0'+now/10%10))
	m.log = append(m.log, byte('0'+now%10))
	m.log = append(m.log, ':')
	for i, caught := range met {
		if caught {
			m.log = append(m.log, nameOf(i))
		}
	}
	m.log = append(m.log, ' ')
}
