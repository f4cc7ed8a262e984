package hyper_test

import (
	"math/rand"
	"slices"
	"strconv"
	"strings"

	"plunder/api"
)

// letters of the kinds, in their order; a write has what it puts behind it.
const letters = "SRYrw"

// list reads deeds as the chapter writes them.
func list(text string) []api.Deed {
	var deeds []api.Deed
	for _, word := range strings.Fields(text) {
		d := api.Deed{Kind: strings.Index(letters, word[:1])}
		if len(word) > 1 {
			d.Loc, _ = strconv.ParseInt(word[1:], 10, 64)
		}
		deeds = append(deeds, d)
	}
	return deeds
}

// text writes deeds as the chapter does.
func text(deeds []api.Deed) string {
	var words []string
	for _, d := range deeds {
		word := letters[d.Kind : d.Kind+1]
		if d.Kind == api.DWrite {
			word += strconv.FormatInt(d.Loc, 10)
		}
		words = append(words, word)
	}
	return strings.Join(words, " ")
}

// bits reads which spawns are stolen: a 1 for each that is.
func bits(text string) []bool {
	var stolen []bool
	for _, word := range strings.Fields(text) {
		stolen = append(stolen, word == "1")
	}
	return stolen
}

func same(a, b api.Views) bool {
	return slices.Equal(a.Final, b.Final) && a.Made == b.Made && slices.Equal(a.Merges, b.Merges) && sameLists(a.Looks, b.Looks)
}

func sameLists(a, b [][]int64) bool {
	return slices.EqualFunc(a, b, func(x, y []int64) bool { return slices.Equal(x, y) })
}

// copied is the same in other memory.
func copied(v api.Views) api.Views {
	looks := make([][]int64, len(v.Looks))
	for i, look := range v.Looks {
		looks[i] = slices.Clone(look)
	}
	return api.Views{Final: slices.Clone(v.Final), Made: v.Made, Merges: slices.Clone(v.Merges), Looks: looks}
}

// view is one of the model's.
type view struct {
	number int
	held   []int64
}

// model is 23.1 and 23.2 as they are told, task by task: a call plays a whole task, and its children by calls of its own.
type model struct {
	deeds  []api.Deed
	stolen []bool
	picks  []int
	at     int // how many deeds have been done
	spawns int
	views  api.Views
}

// modelled tells what Play has to answer.
func modelled(deeds []api.Deed, stolen []bool, picks []int) api.Views {
	m := &model{deeds: deeds, stolen: stolen, picks: picks}
	root := m.newView()
	m.task(root)
	m.views.Final = root.held
	return m.views
}

func (m *model) newView() *view {
	m.views.Made++
	return &view{number: m.views.Made - 1}
}

// task plays the current task up to its return, or to the end of the list.
func (m *model) task(lent *view) {
	row := []*view{lent}
	for m.at < len(m.deeds) {
		d := m.deeds[m.at]
		hand := row[len(row)-1]
		m.at++
		switch d.Kind {
		case api.DWrite:
			hand.held = slices.Concat(hand.held, []int64{d.Loc})
		case api.DRead:
			m.views.Looks = append(m.views.Looks, hand.held)
		case api.DSync:
			row = m.merged(row, m.at-1)
		case api.DReturn:
			m.merged(row, m.at-1)
			return
		case api.DSpawn:
			row = m.child(row, hand)
		}
	}
	m.merged(row, len(m.deeds))
}

// child plays the child that the last deed has begun, and tells its parent's row behind that.
func (m *model) child(row []*view, hand *view) []*view {
	k := m.spawns
	m.spawns++
	m.task(hand)
	if returned(m.deeds, k) && k < len(m.stolen) && m.stolen[k] {
		return append(slices.Clone(row), m.newView())
	}
	return row
}

// merged tells the row of one view that a row is merged into.
func (m *model) merged(row []*view, at int) []*view {
	for n := len(row); n > 1; n = len(row) {
		pick := 0
		if len(m.picks) > 0 {
			pick, m.picks = m.picks[0], m.picks[1:]
		}
		j := pick % (n - 1)
		if j < 0 {
			j += n - 1
		}
		row[j].held = slices.Concat(row[j].held, row[j+1].held)
		m.views.Merges = append(m.views.Merges, api.Merge{At: at, Left: row[j].number, Right: row[j+1].number})
		row = slices.Concat(row[:j+1], row[j+2:])
	}
	return row
}

// returned tells whether the child of the k-th spawn returns in the list.
func returned(deeds []api.Deed, k int) bool {
	depth := 0 // from the child's spawn on: of the tasks that have not returned
	for _, d := range deeds {
		switch d.Kind {
		case api.DSpawn:
			if k--; k < 0 {
				depth++
			}
		case api.DReturn:
			if k >= 0 {
				continue
			}
			if depth--; depth == 0 {
				return true
			}
		}
	}
	return false
}

// puts tells the places of the writes in the list.
func puts(deeds []api.Deed) []int64 {
	var locs []int64
	for _, d := range deeds {
		if d.Kind == api.DWrite {
			locs = append(locs, d.Loc)
		}
	}
	return locs
}

// whole tells of each read whether no continuation that is stolen has begun since the last sync of its task, and of each task above (or since their beginning): 23.8.
func whole(deeds []api.Deed, stolen []bool) []bool {
	type task struct {
		spawn int
		split bool
	}
	var all []bool
	tasks, spawns := []task{{}}, 0
	for _, d := range deeds {
		last := len(tasks) - 1
		switch d.Kind {
		case api.DSpawn:
			tasks = append(tasks, task{spawn: spawns})
			spawns++
		case api.DReturn:
			k := tasks[last].spawn
			tasks = tasks[:last]
			if k < len(stolen) && stolen[k] {
				tasks[last-1].split = true
			}
		case api.DSync:
			tasks[last].split = false
		case api.DRead:
			all = append(all, !slices.ContainsFunc(tasks, func(t task) bool { return t.split }))
		}
	}
	return all
}

// ways is how often the kinds are drawn.
type ways struct{ spawn, back, sync, read, write int }

// drawWays draws tendencies: deep lists and flat ones, with many waits or few.
func drawWays(r *rand.Rand) ways {
	return ways{spawn: 1 + r.Intn(6), back: 1 + r.Intn(6), sync: r.Intn(3), read: r.Intn(4), write: r.Intn(5)}
}

// drawDeeds draws n deeds without a fault, which hardly ever put one number twice.
func drawDeeds(r *rand.Rand, n int, w ways) []api.Deed {
	var deeds []api.Deed
	depth := 0
	for len(deeds) < n {
		back := w.back
		if depth == 0 {
			back = 0
		}
		d := api.Deed{Kind: pick(r, w.spawn, back, w.sync, w.read, w.write), Loc: int64(r.Uint64()>>r.Intn(64)) | 1}
		switch d.Kind {
		case api.DSpawn:
			depth++
		case api.DReturn:
			depth--
		}
		deeds = append(deeds, d)
	}
	return deeds
}

// pick draws a place in a list of weights.
func pick(r *rand.Rand, weights ...int) int {
	sum := 0
	for _, w := range weights {
		sum += w
	}
	x := r.Intn(sum)
	for k, w := range weights {
		if x < w {
			return k
		}
		x -= w
	}
	panic("no weight")
}

// drawStolen draws which of n spawns are stolen: most, few, all or none.
func drawStolen(r *rand.Rand, n int) []bool {
	stolen := make([]bool, n)
	often := r.Intn(5)
	for k := range stolen {
		stolen[k] = r.Intn(4) < often
	}
	return stolen
}

// drawPicks draws n picks of any size.
func drawPicks(r *rand.Rand, n int) []int {
	picks := make([]int, n)
	for i := range picks {
		picks[i] = int(r.Uint64())
		if r.Intn(2) == 0 {
			picks[i] = r.Intn(20) - 10
		}
	}
	return picks
}
