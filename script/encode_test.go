package script_test

import (
	"math"
	"math/rand"
	"slices"
	"strconv"
	"strings"
	"testing"

	"plunder/api"
	"plunder/script"
)

// counting: numbers of which no two neighbours are equal, each with two bytes of the text.
func counting(n int) []int {
	list := make([]int, n)
	for i := range list {
		list[i] = i % 10
	}
	return list
}

// 10.7
func TestEncodeExamples(t *testing.T) {
	for _, c := range []struct {
		s    api.Script
		text string
	}{
		{api.Script{}, "picks draws"}, {api.Script{Picks: []int{}, Draws: []int{}}, "picks draws"}, {api.Script{Picks: []int{0, 0, 1}}, "picks 0*2 1 draws"}, {api.Script{Draws: []int{7}}, "picks draws 7"},
		{api.Script{Picks: []int{1, 2, 2, 1}, Draws: []int{-7, -7, -7}}, "picks 1 2*2 1 draws -7*3"}, {api.Script{Picks: []int{1, 1, 0, 1, 1, 1}}, "picks 1*2 0 1*3 draws"}, {api.Script{Picks: []int{5}, Draws: []int{5}}, "picks 5 draws 5"},
		{api.Script{Picks: []int{0, 1, 0, 1}}, "picks 0 1 0 1 draws"}, {api.Script{Draws: []int{math.MinInt, math.MaxInt, math.MaxInt}}, "picks draws -9223372036854775808 9223372036854775807*2"},
		{api.Script{Picks: make([]int, 1048576), Draws: make([]int, 1048576)}, "picks 0*1048576 draws 0*1048576"},
	} {
		if text, err := script.Encode(c.s); text != c.text || err != api.OK {
			t.Errorf("10.7: Encode(%d picks, %d draws) = %q, %d, want %q", len(c.s.Picks), len(c.s.Draws), text, err, c.text)
		}
	}
}

// wordsText writes a list item by item, and a count where an item is the last of its row.
func wordsText(list []int) string {
	text, k := "", 0
	for i, x := range list {
		k++
		if i+1 < len(list) && list[i+1] == x {
			continue
		}
		text += " " + strconv.Itoa(x)
		if k > 1 {
			text += "*" + strconv.Itoa(k)
		}
		k = 0
	}
	return text
}

// 10.7: drawn scripts, whose texts are read back.
func TestEncodeThereAndBack(t *testing.T) {
	r := rand.New(rand.NewSource(7))
	drawn := func() []int {
		list := make([]int, r.Intn(60))
		for i := range list {
			list[i] = r.Intn(3) - 1
			if r.Intn(10) == 0 {
				list[i] = int(r.Uint64()) >> r.Intn(64)
			}
		}
		return list
	}
	for range 3000 {
		s := api.Script{Picks: drawn(), Draws: drawn()}
		before := api.Script{Picks: slices.Clone(s.Picks), Draws: slices.Clone(s.Draws)}
		text, err := script.Encode(s)
		if want := "picks" + wordsText(before.Picks) + " draws" + wordsText(before.Draws); text != want || err != api.OK {
			t.Errorf("10.7: Encode(%v) = %q, %d, want %q", before, text, err, want)
		}
		if back, spot := script.Decode(text); spot != (api.Spot{}) || !sameScript(back, before) {
			t.Errorf("10.7: Decode(%q) = %v, %v, want %v", text, back, spot, before)
		}
		if !sameScript(s, before) {
			t.Errorf("10.7: Encode changed %v to %v", before, s)
		}
	}
}

// 10.7: around the greatest length of a text. `picks draws` has 11 bytes.
func TestEncodeLength(t *testing.T) {
	const most = (65536 - 11 - 3) / 2 // beside one number with three bytes
	for _, c := range []struct {
		s      api.Script
		length int // 0: too long
	}{
		{api.Script{Picks: append([]int{10}, counting(most)...)}, 65536}, {api.Script{Draws: append([]int{10}, counting(most)...)}, 65536},
		{api.Script{Picks: append([]int{100}, counting(most)...)}, 0}, {api.Script{Draws: append([]int{100}, counting(most)...)}, 0},
		{api.Script{Picks: append([]int{10}, counting(most-1)...), Draws: []int{0}}, 65536}, {api.Script{Picks: append([]int{10}, counting(most)...), Draws: []int{0}}, 0},
		{api.Script{Picks: append([]int{1, 1, 1}, counting(most-2)...), Draws: []int{10}}, 65536}, {api.Script{Picks: append([]int{1, 1, 1}, counting(most-2)...), Draws: []int{100}}, 0},
		{api.Script{Picks: counting(1048576)}, 0}, {api.Script{Draws: counting(1048576)}, 0}, {api.Script{Picks: counting(1048576), Draws: counting(1048576)}, 0},
	} {
		text, err := script.Encode(c.s)
		if c.length == 0 && (text != "" || err != api.ErrLong) {
			t.Errorf("10.7: Encode(%d picks, %d draws): %d bytes, %d, want ErrLong", len(c.s.Picks), len(c.s.Draws), len(text), err)
		}
		if c.length == 0 {
			continue
		}
		if len(text) != c.length || err != api.OK {
			t.Errorf("10.7: Encode(%d picks, %d draws): %d bytes, %d, want %d bytes", len(c.s.Picks), len(c.s.Draws), len(text), err, c.length)
		}
		if back, spot := script.Decode(text); spot != (api.Spot{}) || !sameScript(back, c.s) {
			t.Errorf("10.7: a text of %d bytes is not read back: %v", len(text), spot)
		}
	}
}

// 10.7: lists that are too long, though their texts would be short.
func TestEncodeRefusals(t *testing.T) {
	for _, s := range []api.Script{{Picks: make([]int, 1048577)}, {Draws: make([]int, 1048577)}, {Picks: make([]int, 1048577), Draws: make([]int, 1048577)}, {Picks: []int{1}, Draws: make([]int, 3000000)}} {
		if text, err := script.Encode(s); text != "" || err != api.ErrLong {
			t.Errorf("10.7: Encode(%d picks, %d draws) = %.40q, %d, want ErrLong", len(s.Picks), len(s.Draws), text, err)
		}
	}
}

// 10.7: what Noise and Turns make goes there and back too.
func TestEncodeOfMadeScripts(t *testing.T) {
	for _, seed := range seeds {
		s, _ := script.Noise(seed, 5, 12, 3000)
		turns, _ := script.Turns(3, 500)
		for _, s := range []api.Script{s, {Picks: turns, Draws: s.Draws}, script.Cut(s, 100)} {
			text, err := script.Encode(s)
			back, spot := script.Decode(text)
			if err != api.OK || spot != (api.Spot{}) || !sameScript(back, s) || strings.Contains(text, "  ") {
				t.Errorf("10.7: %.60q, %d, %v", text, err, spot)
			}
		}
	}
}
