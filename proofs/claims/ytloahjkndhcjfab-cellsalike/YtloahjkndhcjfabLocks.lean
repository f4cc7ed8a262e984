import Derived.Test.YtloahjkndhcjfabProg
import Derived.Conc.RwLib
import Derived.KernelRfl
/-! The numbers under which this dump holds sync.Mutex. -/
namespace Go.Proofs.Ytloahjkndhcjfab
abbrev Try.muLink : Go.Conc.Locks.MuLink := { lock := 79, unlock := 80, ilock := 106, iunlock := 107, lockSlow := 114, unlockSlow := 116, disable := 83, enable := 84, acquire := 95, relMerge := 82, cas32 := 113, add32 := 115, tMutex := 65, tIMutex := 63, tPMutex := 166, tPIMutex := 173, tPI32 := 175, tUP := 144, tNoCopy := 60, tU32 := 61 }
theorem Try.muLib : Go.Conc.Locks.MuLib Try.prog Try.muLink :=
  ⟨Try.func79, Try.func80, Try.func106, Try.func107, Try.func83, Try.func84, Try.func95, Try.func82, Try.func113, Try.func115, Try.underlying63, Try.runUnderlying63, Try.sizeOf63, Try.isAgg63, Try.zeroValue63, Try.underlying65, Try.runUnderlying65, Try.sizeOf65, Try.isAgg65, Try.zeroValue65, Try.underlying166, Try.runUnderlying166, Try.sizeOf166, Try.isAgg166, Try.zeroValue166, Try.underlying173, Try.runUnderlying173, Try.sizeOf173, Try.isAgg173, Try.zeroValue173, Try.underlying175, Try.runUnderlying175, Try.sizeOf175, Try.isAgg175, Try.zeroValue175, Try.underlying144, Try.runUnderlying144, Try.sizeOf144, Try.isAgg144, Try.zeroValue144, Try.underlying60, Try.runUnderlying60, Try.sizeOf60, Try.isAgg60, Try.zeroValue60, Try.underlying21, Try.runUnderlying21, Try.sizeOf21, Try.isAgg21, Try.zeroValue21, (by kernel_rfl)⟩
end Go.Proofs.Ytloahjkndhcjfab
