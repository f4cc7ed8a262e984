import Derived.Test.YtloahjkndhcjfaaProg
import Derived.Conc.RwLib
import Derived.KernelRfl
/-! The numbers under which this dump holds sync.Mutex. -/
namespace Go.Proofs.Ytloahjkndhcjfaa
abbrev Try.muLink : Go.Conc.Locks.MuLink := { lock := 88, unlock := 89, ilock := 92, iunlock := 93, lockSlow := 98, unlockSlow := 101, disable := 94, enable := 96, acquire := 97, relMerge := 99, cas32 := 95, add32 := 100, tMutex := 102, tIMutex := 100, tPMutex := 152, tPIMutex := 153, tPI32 := 155, tUP := 157, tNoCopy := 97, tU32 := 98 }
theorem Try.muLib : Go.Conc.Locks.MuLib Try.prog Try.muLink :=
  ⟨Try.func88, Try.func89, Try.func92, Try.func93, Try.func94, Try.func96, Try.func97, Try.func99, Try.func95, Try.func100, Try.underlying100, Try.runUnderlying100, Try.sizeOf100, Try.isAgg100, Try.zeroValue100, Try.underlying102, Try.runUnderlying102, Try.sizeOf102, Try.isAgg102, Try.zeroValue102, Try.underlying152, Try.runUnderlying152, Try.sizeOf152, Try.isAgg152, Try.zeroValue152, Try.underlying153, Try.runUnderlying153, Try.sizeOf153, Try.isAgg153, Try.zeroValue153, Try.underlying155, Try.runUnderlying155, Try.sizeOf155, Try.isAgg155, Try.zeroValue155, Try.underlying157, Try.runUnderlying157, Try.sizeOf157, Try.isAgg157, Try.zeroValue157, Try.underlying97, Try.runUnderlying97, Try.sizeOf97, Try.isAgg97, Try.zeroValue97, Try.underlying21, Try.runUnderlying21, Try.sizeOf21, Try.isAgg21, Try.zeroValue21, (by kernel_rfl)⟩
end Go.Proofs.Ytloahjkndhcjfaa
