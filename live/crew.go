package live

import (
	"sync"

	"plunder/api"
	"plunder/script"
	"plunder/worker"
)

// How many workers move at a time at the most, and by how many steps until it is the next one's turn.
const (
	tokenCount = 8
	turnSteps  = 256
)

// crew is what the goroutines of a run share.
type crew struct {
	world  *worker.World
	tokens chan struct{}   // whoever has one may make steps
	roused []chan struct{} // by worker: the word that its flag may be down
	stop   chan struct{}   // closed as soon as the run is known not to go on
	once   sync.Once       // for the stop
}

func newCrew(w *worker.World, workers int) *crew {
	c := &crew{world: w, tokens: make(chan struct{}, tokenCount), stop: make(chan struct{})}
	for range tokenCount {
		c.tokens <- struct{}{}
	}
	for range workers {
		c.roused = append(c.roused, make(chan struct{}, 1))
	}
	return c
}

// playAll plays each worker of a world by a goroutine of its own, and tells what has come of it when all of them have ended.
func playAll(w *worker.World, workers int) (api.Live, api.Errno) {
	c := newCrew(w, workers)
	starts := make([]int, workers)
	var all sync.WaitGroup
	for i := range starts {
		all.Add(1)
		go func() {
			defer all.Done()
			starts[i] = c.play(i)
		}()
	}
	all.Wait()
	value, left := w.Result()
	if !left { // it was given up, which no run is that was let in
		return api.Live{}, api.ErrLimit
	}
	return api.Live{Value: value, Tasks: sum(starts)}, api.OK
}

func sum(list []int) int {
	n := 0
	for _, x := range list {
		n += x
	}
	return n
}

// play plays a worker, turn by turn, until it has halted, and tells how many tasks it has started.
func (c *crew) play(self int) int {
	p := player{crew: c, self: self, draws: script.Seeded(int64(self))}
	for !c.world.Halted(self) && p.waits() {
		p.turn()
		c.tokens <- struct{}{}
	}
	return p.starts
}

// hears waits for something to be received. It tells false if the stop comes instead.
func (c *crew) hears(what chan struct{}) bool {
	select {
	case <-what:
		return true
	case <-c.stop:
		return false
	}
}

// giveUp gives the stop: a worker is stuck, and all others would wait for it for ever.
func (c *crew) giveUp() { c.once.Do(func() { close(c.stop) }) }

// rouse leaves word for a worker. Where there is one that it has not taken yet, that one will do.
func (c *crew) rouse(i int) {
	select {
	case c.roused[i] <- struct{}{}:
	default:
	}
}

func (c *crew) rouseAll() {
	for i := range c.roused {
		c.rouse(i)
	}
}

// player is what a goroutine keeps for itself.
type player struct {
	*crew
	self   int
	draws  *script.Drawer
	parked bool // and not known to hunt again
	starts int
}

// Draw is asked by the player's own worker as soon as it hunts. No other sign tells that it is parked no longer.
func (p *player) Draw() int {
	p.parked = false
	return p.draws.Draw()
}

// waits waits until it is the worker's turn, and tells false if there will be none. As long as its flag is up the steps of a parked worker come to nothing: they are left out, so that they take no time from others. Whoever lowers the flag leaves word behind that. Word may be left over from an earlier rest, too: then the turn comes to nothing, and the worker is parked still.
func (p *player) waits() bool {
	return (!p.parked || p.hears(p.roused[p.self])) && p.hears(p.tokens)
}

// turn makes some steps of the worker, up to one behind which it has to wait or is through.
func (p *player) turn() {
	for range turnSteps {
		e, err := p.world.Step(p.self, p)
		switch {
		case err != api.OK || e.Kind == api.EvFull:
			p.giveUp()
			return
		case e.Kind == api.EvStart:
			p.starts++
		case e.Kind == api.EvWake:
			p.rouse(e.X)
		case e.Kind == api.EvPark:
			p.parked = true
			return
		case e.Kind == api.EvHalt:
			p.rouseAll() // one of those that halt has lowered all flags just ahead of that
			return
		}
	}
}
