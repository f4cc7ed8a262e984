package prog

import "plunder/api"

// head is the word that every image begins with.
const head = 1886156142

// Encode tells a program's image.
func Encode(p api.Program) ([]int64, api.Errno) {
	if fault := Check(p); fault.Err != api.OK {
		return nil, fault.Err
	}
	words := []int64{head, int64(len(p.Funcs))}
	for _, f := range p.Funcs {
		words = append(words, int64(f.Params), int64(f.Regs), int64(f.Slots), int64(len(f.Code)))
		for _, i := range f.Code {
			words = append(words, int64(i.Kind), int64(i.A), int64(i.B), int64(i.C), i.K)
		}
	}
	return append(words, sum(words)), api.OK
}

// Decode tells an image's program.
func Decode(words []int64) (p api.Program, err api.Errno) {
	defer func() {
		if fault := caught(recover()); fault.Err != api.OK {
			p, err = api.Program{}, fault.Err
		}
	}()
	read := readProgram(words)
	if fault := Check(read); fault.Err != api.OK {
		return api.Program{}, fault.Err
	}
	return read, api.OK
}

// sum is odd in every word's weight, so that no change of one word is lost.
func sum(words []int64) int64 {
	total := int64(0)
	for _, w := range words {
		total = total*31 + w
	}
	return total
}

// reader holds the words that are still to be read.
type reader struct{ words []int64 }

// readProgram tells what a whole image says, whether it makes sense or not.
func readProgram(words []int64) api.Program {
	if len(words) < 3 {
		giveUp(api.ErrImage, 0, 0)
	}
	last := len(words) - 1
	if words[last] != sum(words[:last]) {
		giveUp(api.ErrSum, 0, 0)
	}
	r := reader{words[:last]}
	if r.word() != head {
		giveUp(api.ErrImage, 0, 0)
	}
	p := api.Program{Funcs: make([]api.Func, r.count(api.MaxFuncs))}
	for number := range p.Funcs {
		p.Funcs[number] = r.function()
	}
	if len(r.words) > 0 {
		giveUp(api.ErrImage, 0, 0)
	}
	return p
}

func (r *reader) function() api.Func {
	f := api.Func{Params: r.number(), Regs: r.number(), Slots: r.number()}
	f.Code = make([]api.Instr, r.count(api.MaxCode))
	for at := range f.Code {
		f.Code[at] = api.Instr{Kind: r.number(), A: r.number(), B: r.number(), C: r.number(), K: r.word()}
	}
	return f
}

// count reads how many things follow, which are from 1 to most.
func (r *reader) count(most int) int {
	n := r.word()
	if n < 1 || n > int64(most) {
		giveUp(api.ErrImage, 0, 0)
	}
	return int(n)
}

func (r *reader) number() int { return int(r.word()) }

func (r *reader) word() int64 {
	if len(r.words) == 0 {
		giveUp(api.ErrImage, 0, 0)
	}
	w := r.words[0]
	r.words = r.words[1:]
	return w
}
