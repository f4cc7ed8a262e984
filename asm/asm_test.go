package asm_test

import (
	"reflect"
	"testing"

	"plunder/api"
	"plunder/asm"
)

// Each call puts what it is given where package api says.
func TestMakers(t *testing.T) {
	code := []api.Instr{
		{Kind: api.IConst, A: 1, K: -9}, {Kind: api.IMove, A: 1, B: 2}, {Kind: api.IArith, A: 1, B: 2, C: 3, K: api.Shr},
		{Kind: api.IJump, A: 4}, {Kind: api.IBranch, A: 1, B: 4}, {Kind: api.ISpawn, A: 5, B: 6, C: 1},
		{Kind: api.ISync}, {Kind: api.ILoad, A: 1, B: 5}, {Kind: api.IPed, A: 1}, {Kind: api.IReturn, A: 1},
	}
	want := api.Program{Funcs: []api.Func{{Params: 7, Regs: 8, Slots: 6, Code: code}, {Params: 1, Regs: 2, Slots: 3}}}
	got := asm.Program(
		asm.Func(7, 8, 6, asm.Const(1, -9), asm.Move(1, 2), asm.Arith(1, 2, api.Shr, 3), asm.Jump(4), asm.Branch(1, 4), asm.Spawn(5, 6, 1), asm.Sync(), asm.Load(1, 5), asm.Ped(1), asm.Return(1)),
		asm.Func(1, 2, 3))
	if !reflect.DeepEqual(got, want) {
		t.Errorf("made %v, want %v", got, want)
	}
}
