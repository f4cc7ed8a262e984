package frames

import (
	"slices"

	"plunder/api"
	"plunder/cells"
	"plunder/ops"
)

// parent is the parent's frame: it is the first that is taken.
const parent = 0

// play is a parent and its children on their way. Where the parent stands is not any actor's own: it goes with the frame, to whoever holds it.
type play struct {
	mem     *cells.Arena
	table   Table
	rounds  []int
	alive   []actor // those that have not ended, in the order of their numbers
	born    int     // how many actors have come to be
	round   int     // the round that the parent is in
	forked  int     // how many children it has forked in this round
	child   int     // the frame that was taken last, for a child
	done    bool
	holders []int
	reads   [][]int64
}

// actor: the op that it is in or about to begin, and what it ends with if it plays a child.
type actor struct {
	number     int
	op, finish Op
}

// Play plays one parent and its children.
func Play(rounds []int, picks []int) (api.JoinRun, api.Errno) {
	if err := playFault(rounds, picks); err != api.OK {
		return api.JoinRun{}, err
	}
	frames := 1
	for _, n := range rounds {
		frames += n
	}
	mem, err := cells.New(Cells(frames))
	if err != api.OK {
		return api.JoinRun{}, err
	}
	t, err := New(mem, frames)
	if err != api.OK {
		return api.JoinRun{}, err
	}
	mem.Watch(true)
	p := play{mem: mem, table: t, rounds: rounds}
	p.join(Alloc(t), Op{})
	steps := 0
	for steps < len(picks) && !p.done {
		p.pick(ops.Mod(picks[steps], len(p.alive)))
		steps++
	}
	return api.JoinRun{Done: p.done, Steps: steps, Holders: p.holders, Reads: p.reads, Marks: p.marks(), Log: mem.Log()}, api.OK
}

func playFault(rounds, picks []int) api.Errno {
	if len(rounds) > api.MaxRounds || len(picks) > api.MaxPicks {
		return api.ErrLong
	}
	for _, n := range rounds {
		if n < 0 || n > api.MaxSlots {
			return api.ErrRound
		}
	}
	return api.OK
}

// join lets a new actor come to be.
func (p *play) join(first, finish Op) {
	p.alive = append(p.alive, actor{number: p.born, op: first, finish: finish})
	p.born++
}

// pick lets the actor at this place of the living make a step.
func (p *play) pick(place int) {
	a := &p.alive[place]
	p.mem.Who(a.number)
	a.op = Step(p.mem, a.op)
	switch code, v := Answer(a.op); code {
	case api.Got:
		a.op = p.taken(int(v))
	case api.Marked:
		a.op = a.finish
		if a.number == 0 {
			a.op = p.nextFork()
		}
	case api.Forked:
		slot := p.forked
		p.forked++
		a.op = p.nextFork()
		p.join(Start(p.table, p.child), Finish(p.table, parent, slot, int64(100*p.round+slot)))
	case api.Synced, api.Last:
		p.holders = append(p.holders, a.number)
		p.reads = append(p.reads, nil)
		a.op = p.nextFetch()
	case api.Read:
		p.reads[p.round] = append(p.reads[p.round], v)
		a.op = p.nextFetch()
	case api.Waits, api.More:
		p.alive = slices.Delete(p.alive, place, place+1)
	}
}

// taken tells what is done with a frame that was taken.
func (p *play) taken(frame int) Op {
	if frame == parent {
		return Start(p.table, parent)
	}
	p.child = frame
	return Fork(p.table, parent)
}

// nextFork tells how the parent goes on ahead of its sync. Behind the last round there is nothing to go on with.
func (p *play) nextFork() Op {
	switch {
	case p.round == len(p.rounds):
		p.done = true
		return Op{}
	case p.forked < p.rounds[p.round]:
		return Alloc(p.table)
	}
	return Sync(p.table, parent)
}

// nextFetch tells how the parent goes on behind its sync.
func (p *play) nextFetch() Op {
	if slot := len(p.reads[p.round]); slot < p.rounds[p.round] {
		return Fetch(p.table, parent, slot)
	}
	p.round++
	p.forked = 0
	return p.nextFork()
}

// marks tells how often each frame was begun, as the cells stand.
func (p *play) marks() []int64 {
	now := p.mem.Cells()
	marks := make([]int64, p.table.Frames)
	for f := range marks {
		marks[f] = now[p.table.mark(f)]
	}
	return marks
}
