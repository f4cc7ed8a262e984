import Derived.Test.YtemmkgnbngeiaaaDqOp2
/-! A step, plainly: which access a machine makes, what it is behind it. -/
namespace Go.Proofs.Ytemmkgnbngeiaaa
open Go.RowKit Go.HeapKit Go.IntWalk

/-- The access of a machine that stands at a point from 2 on: kind, address, the two numbers. -/
def OpS.want (o : OpS) : Int × Int × Int × Int :=
  if o.at_ = 2 then (0, wrap64 (o.base + 1), 0, 0)
  else if o.at_ = 3 then (0, wrap64 o.base, 0, 0)
  else if o.at_ = 4 then (0, wrap64 (o.base + 2), 0, 0)
  else if o.at_ = 5 then (0, o.a, 0, 0)
  else if o.at_ = 6 then (1, placeV o.a o.c o.b, o.v, 0)
  else if o.at_ = 7 then (1, wrap64 (o.base + 1), wrap64 (o.b + 1), 0)
  else if o.at_ = 8 then (4, 0, wrap64 (1 + o.nc), 0)
  else if o.at_ = 9 then (1, o.na, o.nc, 0)
  else if o.at_ = 10 then (0, placeV o.a o.c o.ix, 0, 0)
  else if o.at_ = 11 then (1, placeV o.na o.nc o.ix, o.mv, 0)
  else if o.at_ = 12 then (1, wrap64 (o.base + 2), o.na, 0)
  else if o.at_ = 13 then (0, wrap64 (o.base + 1), 0, 0)
  else if o.at_ = 14 then (0, wrap64 (o.base + 2), 0, 0)
  else if o.at_ = 15 then (1, wrap64 (o.base + 1), o.b, 0)
  else if o.at_ = 16 then (0, wrap64 o.base, 0, 0)
  else if o.at_ = 17 then (1, wrap64 (o.base + 1), o.t, 0)
  else if o.at_ = 18 then (0, o.a, 0, 0)
  else if o.at_ = 19 then (0, placeV o.a o.c o.b, 0, 0)
  else if o.at_ = 20 then (2, wrap64 o.base, o.t, wrap64 (o.t + 1))
  else if o.at_ = 21 then (1, wrap64 (o.base + 1), wrap64 (o.t + 1), 0)
  else if o.at_ = 22 then (0, wrap64 o.base, 0, 0)
  else if o.at_ = 23 then (0, wrap64 (o.base + 1), 0, 0)
  else if o.at_ = 24 then (0, wrap64 (o.base + 2), 0, 0)
  else if o.at_ = 25 then (0, o.a, 0, 0)
  else if o.at_ = 26 then (0, placeV o.a o.c o.t, 0, 0)
  else if o.at_ = 27 then (2, wrap64 o.base, o.t, wrap64 (o.t + 1))
  else if o.at_ = 28 then (0, wrap64 o.base, 0, 0)
  else (0, wrap64 (o.base + 1), 0, 0)
/-- What the machine is behind an access that was let, by its answer. -/
def OpS.went (o : OpS) (x : Int) (ok : Bool) : OpS :=
  if o.at_ = 2 then { o with b := x, at_ := 3 }
  else if o.at_ = 3 then { o with t := x, at_ := 4 }
  else if o.at_ = 4 then { o with a := x, at_ := 5 }
  else if o.at_ = 5 then measuredS { o with c := x }
  else if o.at_ = 6 then { o with at_ := 7 }
  else if o.at_ = 7 then OpS.ended 2 0
  else if o.at_ = 8 then { o with na := x, at_ := 9 }
  else if o.at_ = 9 then { o with ix := o.t, at_ := 10 }
  else if o.at_ = 10 then { o with mv := x, at_ := 11 }
  else if o.at_ = 11 then if wrap64 (o.ix + 1) = o.b then { o with ix := wrap64 (o.ix + 1), at_ := 12 } else { o with ix := wrap64 (o.ix + 1), at_ := 10 }
  else if o.at_ = 12 then { o with a := o.na, c := o.nc, at_ := 6 }
  else if o.at_ = 13 then { o with b := wrap64 (x - 1), at_ := 14 }
  else if o.at_ = 14 then { o with a := x, at_ := 15 }
  else if o.at_ = 15 then { o with at_ := 16 }
  else if o.at_ = 16 then if o.b < x then { o with t := x, at_ := 17 } else { o with t := x, at_ := 18 }
  else if o.at_ = 17 then OpS.ended 5 0
  else if o.at_ = 18 then flatS { o with c := x } 19
  else if o.at_ = 19 then if o.t < o.b then OpS.ended 4 x else { o with v := x, at_ := 20 }
  else if o.at_ = 20 then { decidedS o ok 5 with at_ := 21 }
  else if o.at_ = 21 then OpS.ended o.code o.v
  else if o.at_ = 22 then { o with t := x, at_ := 23 }
  else if o.at_ = 23 then if x ≤ o.t then OpS.ended 5 0 else { o with b := x, at_ := 24 }
  else if o.at_ = 24 then { o with a := x, at_ := 25 }
  else if o.at_ = 25 then flatS { o with c := x } 26
  else if o.at_ = 26 then { o with v := x, at_ := 27 }
  else if o.at_ = 27 then OpS.ended (decidedS o ok 6).code (decidedS o ok 6).v
  else if o.at_ = 28 then { o with t := x, at_ := 29 }
  else if o.t < x then OpS.ended 7 0 else OpS.ended 8 0
def OpS.acc (o : OpS) (A : Ar) : Eff × Ar := A.did o.want.1 o.want.2.1 o.want.2.2.1 o.want.2.2.2
open Classical in
/-- A step. -/
noncomputable def OpS.step (o : OpS) (A : Ar) : OpS × Ar :=
  if o = OpS.zero ∨ o.at_ = 1 then (o, A)
  else if (o.acc A).1.err = 0 then (o.went (o.acc A).1.v (o.acc A).1.ok, (o.acc A).2) else (OpS.zero, (o.acc A).2)
end Go.Proofs.Ytemmkgnbngeiaaa
