package cells_test

import (
	"slices"
	"sync"
	"sync/atomic"
	"testing"

	"plunder/api"
	"plunder/cells"
)

func shared(t *testing.T, size, inUse int) *cells.Shared {
	t.Helper()
	s, err := cells.NewShared(size)
	if err != api.OK {
		t.Fatalf("NewShared(%d): error %d", size, err)
	}
	if inUse > 0 {
		if _, err := s.Reserve(inUse); err != api.OK {
			t.Fatalf("Reserve(%d): error %d", inUse, err)
		}
	}
	return s
}

// together runs n goroutines, all from one moment on, and waits for them.
func together(n int, run func(i int)) {
	var all sync.WaitGroup
	start := make(chan struct{})
	for i := range n {
		all.Add(1)
		go func() {
			defer all.Done()
			<-start
			run(i)
		}()
	}
	close(start)
	all.Wait()
}

// 2.10: every sum is one access: no two answers are the same, and each goroutine's own rise.
func TestSharedAdd(t *testing.T) {
	const actors, each = 8, 20000
	s := shared(t, 1, 1)
	answers := make([][]int64, actors)
	together(actors, func(i int) {
		for range each {
			v, _ := s.Add(0, 1)
			answers[i] = append(answers[i], v)
		}
	})
	var all []int64
	for i, list := range answers {
		if !slices.IsSorted(list) {
			t.Errorf("the answers of goroutine %d do not rise", i)
		}
		all = append(all, list...)
	}
	slices.Sort(all)
	for i, v := range all {
		if v != int64(i+1) {
			t.Fatalf("the sum %d is missing or told twice", i+1)
		}
	}
}

// 2.10: a CAS that stores saw the value that it took away.
func TestSharedCAS(t *testing.T) {
	const rounds, actors, each = 10, 8, 20000
	s := shared(t, rounds, rounds)
	for cell := range rounds {
		won := make([]int64, actors)
		together(actors, func(i int) {
			n := int64(0)
			for range each {
				v, _ := s.Load(cell)
				if ok, _ := s.CAS(cell, v, v+1); ok {
					n++
				}
			}
			won[i] = n
		})
		var sum int64
		for _, n := range won {
			sum += n
		}
		if v, _ := s.Load(cell); v != sum || sum == 0 {
			t.Errorf("cell %d holds %d behind %d CASes that stored", cell, v, sum)
		}
	}
}

// 2.10: no cell is given out twice, none is lost, and all of them are 0 and in use for the one who has them.
func TestSharedReserve(t *testing.T) {
	const actors, size = 8, 6000
	s := shared(t, size, 0)
	owner := make([]int, size)
	var lock sync.Mutex
	together(actors, func(i int) {
		n := i%3 + 1
		for {
			base, err := s.Reserve(n)
			if err == api.ErrRoom && n > 1 {
				n = 1
				continue
			}
			if err != api.OK {
				break
			}
			for addr := base; addr < base+n; addr++ {
				if ok, err := s.CAS(addr, 0, int64(i+1)); !ok || err != api.OK {
					t.Errorf("cell %d of goroutine %d was not fresh: %v, %d", addr, i, ok, err)
				}
				lock.Lock()
				owner[addr] += i + 1
				lock.Unlock()
			}
		}
	})
	for addr, who := range owner {
		if v, err := s.Load(addr); v != int64(who) || who == 0 || who > actors || err != api.OK {
			t.Fatalf("cell %d holds %d, %d; it was given to %d", addr, v, err, who)
		}
	}
	if s.Mark() != size {
		t.Errorf("Mark %d, want %d", s.Mark(), size)
	}
}

// 2.10: one Reserve behind the other, without rest between them: each base is told once.
func TestSharedReserveIsOneAccess(t *testing.T) {
	const rounds, actors, each = 8, 8, 15000
	for range rounds {
		s := shared(t, actors*each, 0)
		bases := make([][]int, actors)
		for i := range bases {
			bases[i] = make([]int, each)
		}
		together(actors, func(i int) {
			for k := range bases[i] {
				bases[i][k], _ = s.Reserve(1)
			}
		})
		all := slices.Concat(bases...)
		slices.Sort(all)
		for i, base := range all {
			if base != i {
				t.Fatalf("the base %d is missing or told twice", i)
			}
		}
	}
}

// 2.10: a cell below the mark stays good, and is 0 for all until one stores into it.
func TestSharedCellsAreFreshForAll(t *testing.T) {
	const size = 3000
	s := shared(t, size, 0)
	var through atomic.Bool
	together(4, func(i int) {
		if i == 0 {
			for range size {
				s.Reserve(1)
			}
			through.Store(true)
			return
		}
		for !through.Load() {
			mark := s.Mark()
			if mark == 0 {
				continue
			}
			if v, err := s.Load(mark - 1); v != 0 || err != api.OK {
				t.Errorf("cell %d below the mark: %d, %d", mark-1, v, err)
			}
		}
	})
}

// 2.10: of two that each store and then look at the other's cell, one at least sees the other's: so it is in every order.
func TestSharedStoresDoNotWait(t *testing.T) {
	const rounds = 3000
	s := shared(t, 2*rounds, 2*rounds)
	saw := [2][rounds]int64{}
	together(2, func(i int) {
		for r := range rounds {
			s.Store(2*r+i, 1)
			saw[i][r], _ = s.Load(2*r + 1 - i)
		}
	})
	for r := range rounds {
		if saw[0][r] == 0 && saw[1][r] == 0 {
			t.Fatalf("round %d: neither saw the other's store", r)
		}
	}
}

// 2.10: what was stored ahead of a sign is there for the one who sees the sign.
func TestSharedStoresComeInOrder(t *testing.T) {
	const rounds = 3000
	s := shared(t, 2*rounds, 2*rounds)
	var through atomic.Bool
	together(2, func(i int) {
		if i == 0 {
			for r := range rounds {
				s.Store(2*r, int64(r+7))
				s.Store(2*r+1, 1)
			}
			through.Store(true)
			return
		}
		for r := range rounds {
			sign := int64(0)
			for last := false; sign == 0 && !last; {
				last = through.Load()
				sign, _ = s.Load(2*r + 1)
			}
			if v, _ := s.Load(2 * r); v != int64(r+7) || sign != 1 {
				t.Errorf("round %d: the sign %d was seen, and %d", r, sign, v)
			}
		}
	})
}
