package prog_test

import (
	"math"
	"math/rand"
	"reflect"
	"slices"
	"testing"

	"plunder/api"
	"plunder/prog"
)

const head = 1886156142

// summed puts the sum behind words.
func summed(words ...int64) []int64 {
	total := int64(0)
	for _, w := range words {
		total = total*31 + w
	}
	return append(slices.Clone(words), total)
}

// greatest is a valid program of the greatest size.
func greatest() api.Program {
	p := api.Program{Funcs: make([]api.Func, 32)}
	for number := range p.Funcs {
		p.Funcs[number] = long(512)
		p.Funcs[number].Slots = 8
		p.Funcs[number].Code[number].K = int64(number)
	}
	return p
}

// 5.6: images word by word, and programs that have none.
func TestEncode(t *testing.T) {
	two := program(
		api.Func{Params: 1, Regs: 2, Slots: 3, Code: []api.Instr{{Kind: api.ISpawn, A: 2, B: 1, C: -7, K: 8}, {Kind: api.ISync, A: 1, B: 2, C: 3, K: math.MinInt64}, {Kind: api.IReturn, A: 1}}},
		api.Func{Regs: 1, Code: []api.Instr{{Kind: api.IReturn, B: math.MaxInt, C: math.MinInt, K: -1}}})
	for _, c := range []struct {
		p    api.Program
		want []int64
	}{
		{program(leaf()), summed(head, 1, 0, 1, 0, 1, 9, 0, 0, 0, 0)},
		{two, summed(head, 2, 1, 2, 3, 3, 5, 2, 1, -7, 8, 6, 1, 2, 3, math.MinInt64, 9, 1, 0, 0, 0, 0, 1, 0, 1, 9, 0, math.MaxInt, math.MinInt, -1)},
	} {
		got, err := prog.Encode(c.p)
		if err != api.OK || !slices.Equal(got, c.want) {
			t.Errorf("5.6: Encode = %v, %d, want %v", got, err, c.want)
		}
	}
	bad := leaf()
	bad.Regs = 0
	for _, c := range []struct {
		p   api.Program
		err api.Errno
	}{
		{api.Program{}, api.ErrFuncs},
		{program(fork(), bad), api.ErrShape},
		{program(fork(), forkWith(1, api.Instr{Kind: 12})), api.ErrInstr},
		{program(forkWith(13, api.Instr{Kind: api.ISync})), api.ErrEnd},
		{program(forkWith(7, api.Instr{Kind: api.ISpawn, C: 3})), api.ErrSpawn},
		{program(forkWith(8, api.Instr{Kind: api.IMove})), api.ErrLoad},
		{program(forkWith(8, api.Instr{Kind: api.IReturn})), api.ErrOpen},
	} {
		if words, err := prog.Encode(c.p); words != nil || err != c.err {
			t.Errorf("5.6: Encode = %v, %d, want %d", words, err, c.err)
		}
	}
}

// 5.7: what is refused, and why.
func TestDecode(t *testing.T) {
	one := []int64{head, 1, 0, 1, 0, 1, 9, 0, 0, 0, 0}
	with := func(at int, w int64) []int64 {
		l := slices.Clone(one)
		l[at] = w
		return summed(l...)
	}
	many := []int64{head, 33}
	for range 33 {
		many = append(many, 0, 1, 0, 1, 9, 0, 0, 0, 0)
	}
	most := slices.Clone(many[:len(many)-9])
	most[1] = 32
	deep := append([]int64{head, 1, 0, 1, 0, 513}, make([]int64, 513*5)...)
	deep[len(deep)-5] = 9
	full := append([]int64{head, 1, 0, 1, 0, 512}, make([]int64, 512*5)...)
	full[len(full)-5] = 9
	for _, c := range []struct {
		name  string
		words []int64
		err   api.Errno
	}{
		{"nothing", nil, api.ErrImage},
		{"no word", []int64{}, api.ErrImage},
		{"one word", []int64{0}, api.ErrImage},
		{"two words that do not sum up", []int64{head, 1}, api.ErrImage},
		{"two words that sum up", summed(head), api.ErrImage},
		{"three words", []int64{head, 0, 58470840402}, api.ErrImage},
		{"three words that do not sum up", []int64{head, 0, 58470840401}, api.ErrSum},
		{"a wrong sum ahead of a wrong head", []int64{5, 1, 1}, api.ErrSum},
		{"a wrong sum ahead of a wrong number", []int64{head, -4, 1}, api.ErrSum},
		{"a leaf", summed(one...), api.OK},
		{"another head", with(0, head+1), api.ErrImage},
		{"no head", with(0, 0), api.ErrImage},
		{"no functions", with(1, 0), api.ErrImage},
		{"fewer than none", with(1, -1), api.ErrImage},
		{"a function too few", with(1, 2), api.ErrImage},
		{"far too many functions", with(1, math.MaxInt64), api.ErrImage},
		{"far too few functions", with(1, math.MinInt64), api.ErrImage},
		{"no functions and nothing left over", summed(head, 0), api.ErrImage},
		{"32 functions", summed(most...), api.OK},
		{"33 functions", summed(many...), api.ErrImage},
		{"no instructions", summed(head, 1, 0, 1, 0, 0), api.ErrImage},
		{"no instructions, words left over", with(5, 0), api.ErrImage},
		{"fewer instructions than none", with(5, -1), api.ErrImage},
		{"an instruction too few", with(5, 2), api.ErrImage},
		{"far too many instructions", with(5, 1<<62), api.ErrImage},
		{"512 instructions", summed(full...), api.OK},
		{"513 instructions", summed(deep...), api.ErrImage},
		{"a word left over", summed(append(slices.Clone(one), 0)...), api.ErrImage},
		{"a function left over", summed(append(slices.Clone(one), one[2:]...)...), api.ErrImage},
		{"a wrong image ahead of a wrong program", summed(head, 2, 0, 99, 0, 1, 9, 0, 0, 0, 0), api.ErrImage},
		{"a shape", with(2, -1), api.ErrShape},
		{"another shape", with(3, 1<<62), api.ErrShape},
		{"slots", with(4, 9), api.ErrShape},
		{"an instruction", with(6, 10), api.ErrInstr},
		{"a register", with(7, 1), api.ErrInstr},
		{"an end", with(6, 6), api.ErrEnd},
		{"a spawn", summed(head, 1, 0, 1, 1, 4, 5, 0, 0, 0, 0, 5, 0, 0, 0, 0, 6, 0, 0, 0, 0, 9, 0, 0, 0, 0), api.ErrSpawn},
		{"a load", summed(head, 1, 0, 1, 1, 2, 7, 0, 0, 0, 0, 9, 0, 0, 0, 0), api.ErrLoad},
		{"a return", summed(head, 1, 0, 1, 1, 2, 5, 0, 0, 0, 0, 9, 0, 0, 0, 0), api.ErrOpen},
		{"fields of which nothing is said", summed(head, 1, 0, 1, 0, 1, 9, 0, -5, 1<<62, -1), api.OK},
	} {
		before := slices.Clone(c.words)
		p, err := prog.Decode(c.words)
		if err != c.err || (err == api.OK) != (p.Funcs != nil) {
			t.Errorf("5.7: %s: Decode = %v, %d, want %d", c.name, p, err, c.err)
		}
		if !slices.Equal(c.words, before) {
			t.Errorf("5.9: %s: Decode changed the words", c.name)
		}
	}
}

// 5.7: every piece of an image that is cut off, with a right sum, is no image.
func TestDecodeCut(t *testing.T) {
	words, err := prog.Encode(program(fork(), leaf(), fork()))
	if err != api.OK {
		t.Fatal(err)
	}
	body := words[:len(words)-1]
	for n := range body {
		if p, err := prog.Decode(summed(body[:n]...)); err != api.ErrImage || p.Funcs != nil {
			t.Errorf("5.7: %d words: %v, %d", n, p, err)
		}
	}
}

// 5.8: there and back, for valid programs; a changed word is found.
func TestRound(t *testing.T) {
	r := rand.New(rand.NewSource(8))
	programs := []api.Program{program(leaf()), program(fork(), leaf()), greatest()}
	for range 300 {
		programs = append(programs, drawValid(r))
	}
	for _, p := range programs {
		before := copied(p)
		words, err := prog.Encode(p)
		if err != api.OK {
			t.Fatalf("5.6: Encode of %v: %d", p, err)
		}
		if !reflect.DeepEqual(p, before) {
			t.Fatalf("5.9: Encode changed the program to %v", p)
		}
		q, err := prog.Decode(words)
		if err != api.OK || !reflect.DeepEqual(q, p) {
			t.Fatalf("5.8: there and back: %v, %d, want %v", q, err, p)
		}
		again, err := prog.Encode(q)
		if err != api.OK || !slices.Equal(again, words) {
			t.Fatalf("5.8: back and there: %v, %d, want %v", again, err, words)
		}
		for range 20 {
			changed := slices.Clone(words)
			changed[r.Intn(len(words))] ^= 1 << r.Intn(64)
			if q, err := prog.Decode(changed); err != api.ErrSum || q.Funcs != nil {
				t.Fatalf("5.8: a changed word: %v, %d", q, err)
			}
		}
	}
}

// 5.8: every word of an image, changed in many ways.
func TestChangedWord(t *testing.T) {
	words, _ := prog.Encode(program(fork(), leaf()))
	for at := range words {
		for _, by := range []int64{1, -1, 2, 31, 1 << 32, math.MinInt64, math.MaxInt64} {
			words[at] += by
			if p, err := prog.Decode(words); err != api.ErrSum || p.Funcs != nil {
				t.Errorf("5.8: word %d changed by %d: %v, %d", at, by, p, err)
			}
			words[at] -= by
		}
	}
}

// 5.9: what is answered is memory of its own, and no list of it shares any with another.
func TestImageMemory(t *testing.T) {
	words, _ := prog.Encode(program(fork(), fork(), leaf()))
	want, _ := prog.Decode(words)
	got, _ := prog.Decode(words)
	clear(words)
	if !reflect.DeepEqual(got, want) || want.Funcs[1].Code[7] != fork().Code[7] {
		t.Errorf("5.9: a program shows a change of the words: %v", got)
	}
	for number := range got.Funcs {
		got.Funcs[number].Code = append(got.Funcs[number].Code, api.Instr{Kind: -1})
		clear(got.Funcs[number].Code)
		for later := number + 1; later < len(got.Funcs); later++ {
			if !reflect.DeepEqual(got.Funcs[later], want.Funcs[later]) {
				t.Errorf("5.9: function %d shows a change of function %d", later, number)
			}
		}
	}
	p := program(fork())
	first, _ := prog.Encode(p)
	kept := slices.Clone(first)
	p.Funcs[0].Code[0].K = 99
	if !slices.Equal(first, kept) {
		t.Error("5.9: an image shows a change of its program")
	}
	clear(first)
	if again, _ := prog.Encode(program(fork())); !slices.Equal(again, kept) {
		t.Error("5.9: an image shows a change of an earlier one")
	}
}

// 5.9: the room behind the ends of what is handed in stays as it is.
func TestRoom(t *testing.T) {
	p := copied(program(fork(), leaf()))
	words := append(summed(head, 1, 0, 1, 0, 1, 9, 0, 0, 0, 0), 77)
	prog.Check(p)
	prog.Encode(p)
	prog.Flow(p.Funcs[0])
	prog.Trail(p.Funcs[0], 9, 0, 4)
	if _, err := prog.Decode(words[:len(words)-1]); err != api.OK || words[len(words)-1] != 77 {
		t.Errorf("5.9: Decode = %d, and %d behind the words", err, words[len(words)-1])
	}
	if f := p.Funcs[:3][2]; f.Regs != -3 {
		t.Errorf("5.9: behind the functions: %v", f)
	}
	for number, f := range p.Funcs {
		if i := f.Code[:len(f.Code)+1][len(f.Code)]; i.Kind != -7 || i.A != math.MinInt {
			t.Errorf("5.9: behind the code of function %d: %v", number, i)
		}
	}
}
