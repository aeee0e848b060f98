package record

import (
	"iter"
	"maps"
	"slices"

	"sleuth/api"
	"sleuth/machine"
)

// Watch is asked what holds in a state.
type Watch interface {
	Holds(s api.State) bool
}

// Player is a log of a program, and the state of it at which it is.
type Player struct {
	threads []int // which takes each step
	every   int
	marks   map[int]*machine.Machine // the checkpoints, by the numbers of their states; none of them ever takes a step
	head    head
	self    *Player // itself; so neither a zero Player nor a copied struct passes for one that was opened
}

// head is a machine in a state of a log.
type head struct {
	machine *machine.Machine
	at      int
}

// Open returns a player of a log, with its checkpoints: P3.8.
func Open(p api.Program, l api.Log, every int) (*Player, api.Errno) {
	if e := Check(p, l); e != api.OK {
		return nil, e
	}
	if every < 1 || every > api.MaxSteps {
		return nil, api.ErrArg
	}
	m, e := machine.New(p, givenTo(l))
	if e != api.OK {
		return nil, e
	}
	r := &Player{threads: threads(l.Picks), every: every, marks: map[int]*machine.Machine{}}
	r.lay(head{machine: m})
	r.head = r.near(0)
	r.self = r
	return r, api.OK
}

// threads returns which thread takes each step.
func threads(picks []api.Pick) []int {
	var list []int
	for _, x := range picks {
		list = append(list, slices.Repeat([]int{x.Thread}, x.Count)...)
	}
	return list
}

// lay makes the checkpoints, by a head at state 0.
func (r *Player) lay(h head) {
	for n := 0; n <= len(r.threads); n += r.every {
		r.wind(&h, n)
		r.marks[n] = h.machine.Copy()
	}
}

// near returns a new head at the last checkpoint that is not behind a state.
func (r *Player) near(n int) head {
	mark := n - n%r.every
	return head{r.marks[mark].Copy(), mark}
}

// wind moves a head forward to a state.
func (r *Player) wind(h *head, n int) {
	for ; h.at < n; h.at++ {
		h.machine.StepOf(r.threads[h.at])
	}
}

// states tells the states from one number to another, each in new memory.
func (r *Player) states(from, to int) iter.Seq2[int, api.State] {
	return func(yield func(int, api.State) bool) {
		h := r.near(from)
		for n := from; n <= to; n++ {
			r.wind(&h, n)
			if !yield(n, h.machine.State()) {
				return
			}
		}
	}
}

func (r *Player) isMade() bool { return r != nil && r.self == r }

// Len returns the number of steps: P3.8.
func (r *Player) Len() int {
	if !r.isMade() {
		return 0
	}
	return len(r.threads)
}

// At returns the number of the state at which the player is: P3.8.
func (r *Player) At() int {
	if !r.isMade() {
		return 0
	}
	return r.head.at
}

// Goto moves the player to a state: P3.9.
func (r *Player) Goto(n int) api.Errno {
	switch {
	case !r.isMade():
		return api.ErrNil
	case n < 0 || n > len(r.threads):
		return api.ErrArg
	}
	if n < r.head.at || n-n%r.every > r.head.at {
		r.head = r.near(n)
	}
	r.wind(&r.head, n)
	return api.OK
}

// Forward moves the player to the next state: P3.9.
func (r *Player) Forward() api.Errno { return r.move(1) }

// Back moves the player to the state before: P3.9.
func (r *Player) Back() api.Errno { return r.move(-1) }

func (r *Player) move(by int) api.Errno {
	e := r.Goto(r.At() + by)
	if e == api.ErrArg {
		return api.ErrNone
	}
	return e
}

// State returns the state at which the player is: P3.9.
func (r *Player) State() api.State {
	if !r.isMade() {
		return api.State{}
	}
	return r.head.machine.State()
}

// stepError returns ErrNone if there is no such step.
func (r *Player) stepError(n int) api.Errno {
	switch {
	case !r.isMade():
		return api.ErrNil
	case n < 0 || n >= len(r.threads):
		return api.ErrNone
	}
	return api.OK
}

// Thread returns the thread that takes a step: P3.9.
func (r *Player) Thread(n int) (int, api.Errno) {
	if e := r.stepError(n); e != api.OK {
		return 0, e
	}
	return r.threads[n], api.OK
}

// Marks returns the numbers of the states at which a checkpoint is kept: P3.9.
func (r *Player) Marks() []int {
	if !r.isMade() {
		return nil
	}
	return slices.Sorted(maps.Keys(r.marks))
}

// First returns the first state in which something does not hold: P3.10.
func (r *Player) First(w Watch) (n int, found bool) {
	if !r.isMade() || w == nil {
		return 0, false
	}
	for n, s := range r.states(0, len(r.threads)) {
		if !w.Holds(s) {
			return n, true
		}
	}
	return 0, false
}

// Last returns the last state in which something holds: P3.10.
func (r *Player) Last(w Watch) (n int, found bool) {
	if !r.isMade() || w == nil {
		return 0, false
	}
	last := len(r.threads)
	for from := last - last%r.every; from >= 0 && !found; from -= r.every {
		for i, s := range r.states(from, min(from+r.every-1, last)) {
			if w.Holds(s) {
				n, found = i, true
			}
		}
	}
	return n, found
}

// Changes returns what a step changes: P3.11.
func (r *Player) Changes(n int) ([]api.Write, api.Errno) {
	if e := r.stepError(n); e != api.OK {
		return nil, e
	}
	var both []api.State
	for _, s := range r.states(n, n+1) {
		both = append(both, s)
	}
	return changes(both[0], both[1]), api.OK
}
