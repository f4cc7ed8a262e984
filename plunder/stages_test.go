package plunder

import (
	"testing"

	"plunder/api"
	"plunder/text"
)

// 20.1, 20.4: what no source comes to by Build: gen.Compile is handed one that mean.Check would refuse.
func TestCompileFault(t *testing.T) {
	s, _ := text.Parse("fn main() { return 1; } fn f(n) { n = 1; m = 3; return n; }")
	b := bench{tree: s}
	r := b.work(api.AtGen)
	if want := (api.Report{Stage: api.AtGen, Err: api.ErrSource, Func: 1, At: 1, Line: "program: error 160 in 1 at 1"}); r != want || len(b.program.Funcs) != 0 {
		t.Errorf("20.1: %+v with the program %v, want %+v", r, b.program, want)
	}
}
