/- errors.As at a target of type *excess: no error; an error of the package errors; an excess. -/
import Derived.Test.YtgebjnoicgmdoaaGreatDoorPtMem
import Derived.WalkKit
import Derived.LaidEql
import Derived.Stop.Asserts
import Derived.RowKitTokens

namespace Go.Proofs.YtgebjnoicgmdoaaGreatDoor
open Go.RowKit Go.Extern.Stop Go.Stop Go.Extern

set_option maxRecDepth 100000 in
theorem as_nil (t : Value) (w : World) : Calls Tryz.prog 52 #[.nilIface, t] w fun e w' => e = .returned (.bool false) ∧ w' = w := by
  go_enter Tryz.func52, Tryz.ntmps52
  go_wp2
  go_ret
  exact ⟨rfl, rfl⟩

/-! closed facts on the entries of internal/reflectlite at this dump's types -/
theorem asValueOf (t : Addr) (w : World) : (ReflectliteValue.unpack (.iface 89 (.pointer (some t)))).run Tryz.prog w
    = .ok (.agg #[.pointer (some ⟨3, 89, none⟩), .pointer (some ⟨w.heap.size, 0, none⟩), .int .u64 150]) (w.alloc (.cells #[.pointer (some t)] 89)) := by kernel_rfl
theorem asType (a : Addr) (w : World) : (ReflectliteValue.methodAny (ReflectliteValue.valueError "reflectlite.Value.Type" 0) (fun t _ _ _ => ReflectliteType.toType t) #[.agg #[.pointer (some ⟨3, 89, none⟩), .pointer (some a), .int .u64 150]]).run Tryz.prog w
    = .ok (.iface 170 (.agg #[.pointer (some ⟨3, 89, none⟩)])) w := by kernel_rfl
theorem asMethodKind (h : Value) (w : World) : (Go.method 361 170 (.agg #[h]) "Kind").run Tryz.prog w = .ok (183, h) w := by kernel_rfl
theorem asKindP (w : World) : ((ReflectliteType.abiMethod fun t => (fun a : Nat => Value.int IntKind.u8 (a : Int)) <$> Rtype.kind t) #[.pointer (some ⟨3, 89, none⟩)]).run Tryz.prog w = .ok (.int .u8 22) w := by kernel_rfl
theorem asKindE (w : World) : ((ReflectliteType.abiMethod fun t => (fun a : Nat => Value.int IntKind.u8 (a : Int)) <$> Rtype.kind t) #[.pointer (some ⟨3, 87, none⟩)]).run Tryz.prog w = .ok (.int .u8 25) w := by kernel_rfl
theorem as_rlm (z : Sem Value) (f : TypeId → Addr → Nat → Nat → Sem Value) (v : Value) :
    ReflectliteValue.method z f #[v] = (do match ← ReflectliteValue.parts v with | none => z | some (t, a, fl) => f t a fl (fl % 32)) := rfl
theorem asPartsP (a : Addr) (w : World) : (ReflectliteValue.parts (.agg #[.pointer (some ⟨3, 89, none⟩), .pointer (some a), .int .u64 150])).run Tryz.prog w = .ok (some (89, a, 150)) w := by kernel_rfl
theorem asIsNil (a p : Addr) (W : World) (ha : W.cell? a = some (.pointer (some p))) :
    (ReflectliteValue.method (ReflectliteValue.valueError "reflectlite.Value.IsNil" 0) ReflectliteValue.isNil #[.agg #[.pointer (some ⟨3, 89, none⟩), .pointer (some a), .int .u64 150]]).run Tryz.prog W = .ok (.bool false) W := by
  rw [as_rlm]
  simp only [Sem.run_bind, asPartsP, Result.andThen]
  simp [ReflectliteValue.isNil, loadVar, isAgg, underlying, Tryz.underlying89, ha, Result.andThen]
theorem asMethodElem (h : Value) (w : World) : (Go.method 361 170 (.agg #[h]) "Elem").run Tryz.prog w = .ok (194, .agg #[h]) w := by kernel_rfl
theorem asMethodImplements (h : Value) (w : World) : (Go.method 361 170 (.agg #[h]) "Implements").run Tryz.prog w = .ok (195, .agg #[h]) w := by kernel_rfl
theorem asMethodAssignableTo (h : Value) (w : World) : (Go.method 361 170 (.agg #[h]) "AssignableTo").run Tryz.prog w = .ok (192, .agg #[h]) w := by kernel_rfl
theorem asElemT (w : World) : (ReflectliteType.method ReflectliteType.elem #[.agg #[.pointer (some ⟨3, 89, none⟩)]]).run Tryz.prog w = .ok (.iface 170 (.agg #[.pointer (some ⟨3, 87, none⟩)])) w := by kernel_rfl
theorem asImplements (w : World) : (ReflectliteType.relation "Implements" ReflectliteType.implements_ #[.agg #[.pointer (some ⟨3, 87, none⟩)], .iface 170 (.agg #[.pointer (some ⟨3, 81, none⟩)])]).run Tryz.prog w = .ok (.bool true) w := by kernel_rfl
theorem asTypeOfE (v : Value) (w : World) : (ReflectliteType.typeOf #[.iface 87 v]).run Tryz.prog w = .ok (.iface 170 (.agg #[.pointer (some ⟨3, 87, none⟩)])) w := by kernel_rfl
theorem asTypeOfS (v : Value) (w : World) : (ReflectliteType.typeOf #[.iface 228 v]).run Tryz.prog w = .ok (.iface 170 (.agg #[.pointer (some ⟨3, 228, none⟩)])) w := by kernel_rfl
theorem asAssignE (w : World) : (ReflectliteType.relation "AssignableTo" ReflectliteType.assignableTo #[.agg #[.pointer (some ⟨3, 87, none⟩)], .iface 170 (.agg #[.pointer (some ⟨3, 87, none⟩)])]).run Tryz.prog w = .ok (.bool true) w := by kernel_rfl
theorem asAssignS (w : World) : (ReflectliteType.relation "AssignableTo" ReflectliteType.assignableTo #[.agg #[.pointer (some ⟨3, 228, none⟩)], .iface 170 (.agg #[.pointer (some ⟨3, 87, none⟩)])]).run Tryz.prog w = .ok (.bool false) w := by kernel_rfl
theorem asValueOfE (ex : Array Value) (w : World) : (ReflectliteValue.unpack (.iface 87 (.agg ex))).run Tryz.prog w
    = .ok (.agg #[.pointer (some ⟨3, 87, none⟩), .pointer (some ⟨w.heap.size, 0, none⟩), .int .u64 153]) (w.alloc (.cells ex 87)) := by kernel_rfl
theorem asElemOf (w : World) : (Rtype.elem? 89).run Tryz.prog w = .ok (some 87) w := by kernel_rfl
theorem asMkE (p : Addr) (w : World) : (ReflectliteValue.mk 87 p ReflectliteValue.flagAddr).run Tryz.prog w = .ok (.agg #[.pointer (some ⟨3, 87, none⟩), .pointer (some p), .int .u64 409]) w := by kernel_rfl
theorem asElemV (a p : Addr) (W : World) (ha : W.cell? a = some (.pointer (some p))) :
    (ReflectliteValue.method (ReflectliteValue.valueError "reflectlite.Value.Elem" 0) ReflectliteValue.elem #[.agg #[.pointer (some ⟨3, 89, none⟩), .pointer (some a), .int .u64 150]]).run Tryz.prog W
      = .ok (.agg #[.pointer (some ⟨3, 87, none⟩), .pointer (some p), .int .u64 409]) W := by
  rw [as_rlm]
  simp only [Sem.run_bind, asPartsP, Result.andThen]
  simp [ReflectliteValue.elem, loadVar, isAgg, underlying, Tryz.underlying89, ha, Result.andThen, asElemOf, asMkE]
theorem as_rls (v x : Value) : ReflectliteValue.set #[v, x] = (do
    let (some (dst, a, fl), some (src, b, _)) := (← ReflectliteValue.parts v, ← ReflectliteValue.parts x)
      | unsupported (.noEntry "extern/(internal/reflectlite.Value).Set.zeroValue")
    if fl / ReflectliteValue.flagAddr % 2 == 0 then unsupported (.noEntry "extern/(internal/reflectlite.Value).Set.unaddressable")
    let val ← loadVar src b
    if ← Rtype.directlyAssignable dst src then storeVar dst a val
    else if ← Rtype.implements dst src then
      if (← Rtype.kind src) == 20 then
        match val with
        | .nilIface => unsupported (.noEntry "extern/reflectlite: a nil value of one interface type handed on as a value of another")
        | _ => storeVar dst a val
      else storeVar dst a (.iface src val)
    else panicString ("reflectlite.Set: value of type " ++ (← Rtype.spelt src) ++ " is not assignable to type " ++ (← Rtype.spelt dst))
    pure (.tuple #[])) := rfl
theorem asPartsA (a : Addr) (w : World) : (ReflectliteValue.parts (.agg #[.pointer (some ⟨3, 87, none⟩), .pointer (some a), .int .u64 409])).run Tryz.prog w = .ok (some (87, a, 409)) w := by kernel_rfl
theorem asPartsE (a : Addr) (w : World) : (ReflectliteValue.parts (.agg #[.pointer (some ⟨3, 87, none⟩), .pointer (some a), .int .u64 153])).run Tryz.prog w = .ok (some (87, a, 153)) w := by kernel_rfl
theorem asDirect (w : World) : (Rtype.directlyAssignable 87 87).run Tryz.prog w = .ok true w := by kernel_rfl
theorem blk_made2 {X : World} {g : Nat} {t : TypeId} {cs : Array Value} (h : g = X.heap.size) : Blk (X.alloc (.cells cs t)) g t cs := by subst h; exact Blk.made _ _ _
theorem asSet (g b : Nat) (ex old : Array Value) (W : World) (hi : (Tryz.prog.info? 87).map (·.size) = some ex.size) (h1 : ex.all (·.oneCell') = true) (ho : old.size = ex.size) (hb : Blk W b 87 ex) (ht : Blk W g 87 old) :
    (ReflectliteValue.set #[.agg #[.pointer (some ⟨3, 87, none⟩), .pointer (some ⟨g, 0, none⟩), .int .u64 409], .agg #[.pointer (some ⟨3, 87, none⟩), .pointer (some ⟨b, 0, none⟩), .int .u64 153]]).run Tryz.prog W
      = .ok (.tuple #[]) (W.setRow g ex) := by
  have hl : (loadVar 87 ⟨b, 0, none⟩).run Tryz.prog W = .ok (.agg ex) W := run_loadVar_sub W b 0 87 ex _ (fun j hj => by rw [Nat.zero_add]; exact Blk.cell hb j) Tryz.underlying87 rfl hi
  have hs := run_storeVar_row (P := Tryz.prog) W g 87 87 old ex ht hi ho h1
  rw [as_rls]
  simp only [Sem.run_bind, asPartsA, asPartsE, Result.andThen]
  simp [ReflectliteValue.flagAddr, Result.andThen, asDirect, hl, hs]
theorem asNoAs (v : Value) (xT : TypeId) (w : World) : (Instr.typeAssert (.iface 228 v) xT 175 true).run Tryz.prog w = .ok (.tuple #[.nilIface, .bool false]) w := run_typeAssert_lacksB Tryz.underlying175 (by kernel_rfl) (by kernel_rfl) v xT w
theorem asNoUnwrap (v : Value) (xT : TypeId) (w : World) : (Instr.typeAssert (.iface 228 v) xT 178 true).run Tryz.prog w = .ok (.tuple #[.nilIface, .bool false]) w := run_typeAssert_lacksB Tryz.underlying178 (by kernel_rfl) (by kernel_rfl) v xT w
theorem asNoUnwraps (v : Value) (xT : TypeId) (w : World) : (Instr.typeAssert (.iface 228 v) xT 180 true).run Tryz.prog w = .ok (.tuple #[.nilIface, .bool false]) w := run_typeAssert_lacksB Tryz.underlying180 (by kernel_rfl) (by kernel_rfl) v xT w

/-- the variable errors.errorType holds the handle of the type error -/
def ErrTAt (w : World) : Prop := w.cell? ⟨2, 0, none⟩ = some (.iface 170 (.agg #[.pointer (some ⟨3, 81, none⟩)]))
theorem ErrTAt.below {w w' : World} {B : Nat} (h : ErrTAt w) (hb : Below B w w') (hB : 2 < B) : ErrTAt w' := (hb.cell (p := ⟨2, 0, none⟩) hB).trans h

set_option maxRecDepth 100000 in
set_option maxHeartbeats 4000000 in
theorem as_hit (w : World) (g : Nat) (ex old : Array Value) (hi : (Tryz.prog.info? 87).map (·.size) = some ex.size) (h1 : ex.all (·.oneCell') = true) (ho : old.size = ex.size) (hg : ErrTAt w) (ht : Blk w g 87 old) :
    Calls Tryz.prog 52 #[.iface 87 (.agg ex), .iface 89 (.pointer (some ⟨g, 0, none⟩))] w fun ev w' => ev = .returned (.bool true) ∧ ∃ w1, Below w.heap.size w w1 ∧ w' = w1.setRow g ex := by
  have h6 := @run_callFunc_extern Tryz.prog 95 _ (fun args => ReflectliteValue.unpack (args.getD 0 (.tuple #[]))) Tryz.func95 (by kernel_rfl) (by kernel_rfl) (by kernel_rfl) (by kernel_rfl)
  have h7 := @run_callFunc_extern Tryz.prog 96 _ (ReflectliteValue.methodAny (ReflectliteValue.valueError "reflectlite.Value.Type" 0) (fun t _ _ _ => ReflectliteType.toType t)) Tryz.func96 (by kernel_rfl) (by kernel_rfl) (by kernel_rfl) (by kernel_rfl)
  have h8 := @run_callFunc_extern Tryz.prog 97 _ (ReflectliteValue.method (ReflectliteValue.valueError "reflectlite.Value.IsNil" 0) ReflectliteValue.isNil) Tryz.func97 (by kernel_rfl) (by kernel_rfl) (by kernel_rfl) (by kernel_rfl)
  have h27 := @run_callFunc_extern Tryz.prog 183 _ (ReflectliteType.abiMethod fun t => do pure (.int .u8 (← Rtype.kind t))) Tryz.func183 (by kernel_rfl) (by kernel_rfl) (by kernel_rfl) (by kernel_rfl)
  have h37 := @run_callFunc_extern Tryz.prog 194 _ (ReflectliteType.method ReflectliteType.elem) Tryz.func194 (by kernel_rfl) (by kernel_rfl) (by kernel_rfl) (by kernel_rfl)
  have h38 := @run_callFunc_extern Tryz.prog 195 _ (ReflectliteType.relation "Implements" ReflectliteType.implements_) Tryz.func195 (by kernel_rfl) (by kernel_rfl) (by kernel_rfl) (by kernel_rfl)
  have h10 := @run_callFunc_extern Tryz.prog 126 _ ReflectliteType.typeOf Tryz.func126 (by kernel_rfl) (by kernel_rfl) (by kernel_rfl) (by kernel_rfl)
  have h35 := @run_callFunc_extern Tryz.prog 192 _ (ReflectliteType.relation "AssignableTo" ReflectliteType.assignableTo) Tryz.func192 (by kernel_rfl) (by kernel_rfl) (by kernel_rfl) (by kernel_rfl)
  have h11 := @run_callFunc_extern Tryz.prog 127 _ (ReflectliteValue.method (ReflectliteValue.valueError "reflectlite.Value.Elem" 0) ReflectliteValue.elem) Tryz.func127 (by kernel_rfl) (by kernel_rfl) (by kernel_rfl) (by kernel_rfl)
  have h12 := @run_callFunc_extern Tryz.prog 128 _ ReflectliteValue.set Tryz.func128 (by kernel_rfl) (by kernel_rfl) (by kernel_rfl) (by kernel_rfl)
  have tO := asTypeOfE
  have mA := asMethodAssignableTo
  have aE := asAssignE
  have vE := asValueOfE ex
  have f6 := asValueOf
  have f7 := asType
  have mK := asMethodKind
  have mE := asMethodElem
  have mI := asMethodImplements
  have kP := asKindP
  have kE := asKindE
  have eT := asElemT
  have iE := asImplements
  have n8 := asIsNil ⟨w.heap.size, 0, none⟩ ⟨g, 0, none⟩ ((w.alloc (.cells #[.pointer (some ⟨g, 0, none⟩)] 89)).alloc (.cells #[.pointer (some ⟨3, 89, none⟩), .pointer (some ⟨w.heap.size, 0, none⟩), .int .u64 150] 143)) (by simp)
  have hlt : 2 < w.heap.size := World.block_lt_of_cell? w _ hg
  have hg2 : ((w.alloc (.cells #[.pointer (some ⟨g, 0, none⟩)] 89)).alloc (.cells #[.pointer (some ⟨3, 89, none⟩), .pointer (some ⟨w.heap.size, 0, none⟩), .int .u64 150] 143)).cell? ⟨2, 0, none⟩ = some (.iface 170 (.agg #[.pointer (some ⟨3, 81, none⟩)])) := by
    rw [World.cell?_alloc_lt _ _ ⟨2, 0, none⟩ (by simp; omega), World.cell?_alloc_lt _ _ ⟨2, 0, none⟩ hlt]; exact hg
  have htl := ht.lt
  have el := asElemV ⟨w.heap.size, 0, none⟩ ⟨g, 0, none⟩ (((w.alloc (.cells #[.pointer (some ⟨g, 0, none⟩)] 89)).alloc (.cells #[.pointer (some ⟨3, 89, none⟩), .pointer (some ⟨w.heap.size, 0, none⟩), .int .u64 150] 143)).alloc (.cells #[.pointer (some ⟨3, 89, none⟩), .pointer (some ⟨w.heap.size, 0, none⟩), .int .u64 150] 143)) (by rw [World.cell?_alloc_lt _ _ ⟨w.heap.size, 0, none⟩ (by simp; omega)]; simp)
  obtain ⟨X, hX⟩ : ∃ X, (((w.alloc (.cells #[.pointer (some ⟨g, 0, none⟩)] 89)).alloc (.cells #[.pointer (some ⟨3, 89, none⟩), .pointer (some ⟨w.heap.size, 0, none⟩), .int .u64 150] 143)).alloc (.cells #[.pointer (some ⟨3, 89, none⟩), .pointer (some ⟨w.heap.size, 0, none⟩), .int .u64 150] 143)).alloc (.cells ex 87) = X := ⟨_, rfl⟩
  have HX : Hid (Below w.heap.size w X) := by
    show Below _ _ _
    rw [← hX]
    exact ((((Below.refl _ w).alloc (Nat.le_refl _) _).alloc (by simp) _).alloc (by simp; omega) _).alloc (by simp; omega) _
  have st := asSet g (w.heap.size + 1 + 1 + 1) ex old X hi h1 ho (by rw [← hX]; exact blk_made2 (by simp)) (by rw [← hX]; exact (((ht.alloc _).alloc _).alloc _).alloc _)
  rw [← hX] at st
  have HXE := Lib.hid hX
  clear hX
  go_enter Tryz.func52, Tryz.ntmps52
  go_wp2
  refine wp_loop_rounds 1 ?_
  rw [rounds_succ]
  go_wp2
  go_ret
  exact ⟨rfl, _, HX.out, by rw [← HXE.out]⟩
set_option maxRecDepth 100000 in
set_option maxHeartbeats 4000000 in
theorem as_miss (w : World) (g : Nat) (v : Value) (hg : ErrTAt w) :
    Calls Tryz.prog 52 #[.iface 228 v, .iface 89 (.pointer (some ⟨g, 0, none⟩))] w fun ev w' => ev = .returned (.bool false) ∧ Below w.heap.size w w' := by
  have h6 := @run_callFunc_extern Tryz.prog 95 _ (fun args => ReflectliteValue.unpack (args.getD 0 (.tuple #[]))) Tryz.func95 (by kernel_rfl) (by kernel_rfl) (by kernel_rfl) (by kernel_rfl)
  have h7 := @run_callFunc_extern Tryz.prog 96 _ (ReflectliteValue.methodAny (ReflectliteValue.valueError "reflectlite.Value.Type" 0) (fun t _ _ _ => ReflectliteType.toType t)) Tryz.func96 (by kernel_rfl) (by kernel_rfl) (by kernel_rfl) (by kernel_rfl)
  have h8 := @run_callFunc_extern Tryz.prog 97 _ (ReflectliteValue.method (ReflectliteValue.valueError "reflectlite.Value.IsNil" 0) ReflectliteValue.isNil) Tryz.func97 (by kernel_rfl) (by kernel_rfl) (by kernel_rfl) (by kernel_rfl)
  have h27 := @run_callFunc_extern Tryz.prog 183 _ (ReflectliteType.abiMethod fun t => do pure (.int .u8 (← Rtype.kind t))) Tryz.func183 (by kernel_rfl) (by kernel_rfl) (by kernel_rfl) (by kernel_rfl)
  have h37 := @run_callFunc_extern Tryz.prog 194 _ (ReflectliteType.method ReflectliteType.elem) Tryz.func194 (by kernel_rfl) (by kernel_rfl) (by kernel_rfl) (by kernel_rfl)
  have h38 := @run_callFunc_extern Tryz.prog 195 _ (ReflectliteType.relation "Implements" ReflectliteType.implements_) Tryz.func195 (by kernel_rfl) (by kernel_rfl) (by kernel_rfl) (by kernel_rfl)
  have h10 := @run_callFunc_extern Tryz.prog 126 _ ReflectliteType.typeOf Tryz.func126 (by kernel_rfl) (by kernel_rfl) (by kernel_rfl) (by kernel_rfl)
  have h35 := @run_callFunc_extern Tryz.prog 192 _ (ReflectliteType.relation "AssignableTo" ReflectliteType.assignableTo) Tryz.func192 (by kernel_rfl) (by kernel_rfl) (by kernel_rfl) (by kernel_rfl)
  have tO := asTypeOfS
  have nA := asNoAs
  have nU := asNoUnwrap
  have nW := asNoUnwraps
  have mA := asMethodAssignableTo
  have aE := asAssignS
  have f6 := asValueOf
  have f7 := asType
  have mK := asMethodKind
  have mE := asMethodElem
  have mI := asMethodImplements
  have kP := asKindP
  have kE := asKindE
  have eT := asElemT
  have iE := asImplements
  have n8 := asIsNil ⟨w.heap.size, 0, none⟩ ⟨g, 0, none⟩ ((w.alloc (.cells #[.pointer (some ⟨g, 0, none⟩)] 89)).alloc (.cells #[.pointer (some ⟨3, 89, none⟩), .pointer (some ⟨w.heap.size, 0, none⟩), .int .u64 150] 143)) (by simp)
  have hlt : 2 < w.heap.size := World.block_lt_of_cell? w _ hg
  have hg2 : ((w.alloc (.cells #[.pointer (some ⟨g, 0, none⟩)] 89)).alloc (.cells #[.pointer (some ⟨3, 89, none⟩), .pointer (some ⟨w.heap.size, 0, none⟩), .int .u64 150] 143)).cell? ⟨2, 0, none⟩ = some (.iface 170 (.agg #[.pointer (some ⟨3, 81, none⟩)])) := by
    rw [World.cell?_alloc_lt _ _ ⟨2, 0, none⟩ (by simp; omega), World.cell?_alloc_lt _ _ ⟨2, 0, none⟩ hlt]; exact hg
  have HX : Hid (Below w.heap.size w (((w.alloc (.cells #[.pointer (some ⟨g, 0, none⟩)] 89)).alloc (.cells #[.pointer (some ⟨3, 89, none⟩), .pointer (some ⟨w.heap.size, 0, none⟩), .int .u64 150] 143)).alloc (.cells #[.pointer (some ⟨3, 89, none⟩), .pointer (some ⟨w.heap.size, 0, none⟩), .int .u64 150] 143))) :=
    (((Below.refl _ w).alloc (Nat.le_refl _) _).alloc (by simp) _).alloc (by simp; omega) _
  go_enter Tryz.func52, Tryz.ntmps52
  go_wp2
  refine wp_loop_rounds 1 ?_
  rw [rounds_succ]
  go_wp2
  go_ret
  exact ⟨rfl, HX.out⟩
end Go.Proofs.YtgebjnoicgmdoaaGreatDoor

/- Plain functions on norms as lists of pairs of numbers (Param, Off): validity index by index, the norm of a list of atoms, values. Nothing of the program is imported. -/
namespace Go.Proofs.YtgebjnoicgmdoaaGreatDoor.Nm

abbrev At := Int × Int

def atOk (a : At) : Bool := decide (-1 ≤ a.1) && decide (a.1 < 5) && decide (0 ≤ a.2) && decide (a.2 ≤ 1000)
theorem atOk_iff (a : At) : atOk a = true ↔ -1 ≤ a.1 ∧ a.1 < 5 ∧ 0 ≤ a.2 ∧ a.2 ≤ 1000 := by simp [atOk, and_assoc]

def AllOk (l : List At) : Prop := ∀ k, k < l.length → atOk (l.getD k (0, 0)) = true
def Incr (l : List At) : Prop := ∀ k, 0 < k → k < l.length → (l.getD (k - 1) (0, 0)).1 < (l.getD k (0, 0)).1
def Exceeds (x : Int) (l : List At) : Prop := ∀ k, k < l.length → (l.getD k (0, 0)).2 < x
def Ok (l : List At) : Prop := 1 ≤ l.length ∧ AllOk l ∧ Incr l ∧ ((l.getD 0 (0, 0)).1 = -1 → Exceeds (l.getD 0 (0, 0)).2 (l.drop 1))

open Classical in
noncomputable def allOk (l : List At) : Bool := decide (AllOk l)
open Classical in
noncomputable def exceeds (x : Int) (l : List At) : Bool := decide (Exceeds x l)
theorem allOk_iff (l : List At) : allOk l = true ↔ AllOk l := by simp [allOk]
theorem exceeds_iff (x : Int) (l : List At) : exceeds x l = true ↔ Exceeds x l := by simp [exceeds]
theorem allOk_no {l : List At} (h : ¬ AllOk l) : allOk l = false := by simp [allOk, h]
theorem exceeds_no {x : Int} {l : List At} (h : ¬ Exceeds x l) : exceeds x l = false := by simp [exceeds, h]
theorem getD_drop1 (l : List At) (k : Nat) : (l.drop 1).getD k (0, 0) = l.getD (k + 1) (0, 0) := by
  simp [List.getD_eq_getElem?_getD]

/-- strictly increasing params: of any two the later one is greater -/
theorem Incr.lt {l : List At} (h : Incr l) {i j : Nat} (hij : i < j) (hj : j < l.length) : (l.getD i (0, 0)).1 < (l.getD j (0, 0)).1 := by
  induction j with
  | zero => omega
  | succ j ih =>
    have h1 := h (j + 1) (by omega) hj
    simp only [Nat.add_sub_cancel] at h1
    by_cases e : i = j
    · subst e; exact h1
    · have := ih (by omega) (by omega); omega
theorem Ok.len {l : List At} (h : Ok l) : l.length ≤ 6 := by
  have H : ∀ k, k < l.length → (k : Int) - 1 ≤ (l.getD k (0, 0)).1 := by
    intro k
    induction k with
    | zero => intro hk; have := (atOk_iff _).1 (h.2.1 0 hk); omega
    | succ k ih =>
      intro hk
      have h1 := ih (by omega)
      have h2 := h.2.2.1 (k + 1) (by omega) hk
      simp only [Nat.add_sub_cancel] at h2
      omega
  by_cases hl : l.length ≤ 6
  · exact hl
  · have h1 := H 6 (by omega)
    have h2 := (atOk_iff _).1 (h.2.1 6 (by omega))
    omega

/-- the greatest Off of the atoms with that Param; -1 if there is none -/
def best (p : Int) : List At → Int
  | [] => -1
  | a :: r => if a.1 = p then max a.2 (best p r) else best p r
theorem best_ge (p : Int) (l : List At) : -1 ≤ best p l := by
  induction l with
  | nil => simp [best]
  | cons a r ih => simp only [best]; split <;> omega
theorem best_append (p : Int) (a b : List At) : best p (a ++ b) = max (best p a) (best p b) := by
  induction a with
  | nil => simp only [List.nil_append, best]; have := best_ge p b; omega
  | cons x r ih => simp only [List.cons_append, best, ih]; split <;> omega
theorem best_one (p : Int) (a : At) : best p [a] = if a.1 = p then max a.2 (-1) else -1 := by simp [best]
theorem best_take (p : Int) (l : List At) (k : Nat) (hk : k < l.length) : best p (l.take (k + 1)) = if (l.getD k (0, 0)).1 = p then max (best p (l.take k)) (l.getD k (0, 0)).2 else best p (l.take k) := by
  have e : l.getD k (0, 0) = l[k] := by simp [List.getD_eq_getElem?_getD, List.getElem?_eq_getElem hk]
  rw [List.take_succ_eq_append_getElem hk, best_append, best_one, e]
  have := best_ge p (l.take k)
  split <;> omega
theorem best_le (p : Int) {l : List At} (h : AllOk l) : best p l ≤ 1000 := by
  induction l with
  | nil => simp [best]
  | cons a r ih =>
    have h0 := (atOk_iff _).1 (h 0 (by simp))
    have h1 := ih (fun k hk => by have := h (k + 1) (by simpa using hk); simpa using this)
    simp only [best]
    simp at h0
    split <;> omega
/-- an atom's Off is at most the best one of its Param -/
theorem best_mem {p x : Int} {l : List At} (h : (p, x) ∈ l) : x ≤ best p l := by
  induction l with
  | nil => simp at h
  | cons a r ih =>
    simp only [best]
    rcases List.mem_cons.1 h with rfl | h
    · simp; omega
    · have := ih h; split <;> omega
theorem best_at {p : Int} {l : List At} (h : best p l ≠ -1) : (p, best p l) ∈ l := by
  induction l with
  | nil => simp [best] at h
  | cons a r ih =>
    simp only [best] at h ⊢
    obtain ⟨a1, a2⟩ := a
    by_cases e : a1 = p
    · subst e
      simp only [if_true] at h ⊢
      by_cases hm : best a1 r ≤ a2
      · rw [show max a2 (best a1 r) = a2 by omega]; simp
      · rw [show max a2 (best a1 r) = best a1 r by omega] at h ⊢
        exact List.mem_cons_of_mem _ (ih h)
    · simp only [e, if_false] at h ⊢
      exact List.mem_cons_of_mem _ (ih h)

/-- the atoms with params 0 .. n - 1 of the norm -/
def pars (l : List At) : Nat → List At
  | 0 => []
  | n + 1 => pars l n ++ if 0 ≤ best n l then [((n : Int), best n l)] else []
theorem pars_succ (l : List At) (n : Nat) : pars l (n + 1) = pars l n ++ if 0 ≤ best n l then [((n : Int), best n l)] else [] := rfl
theorem pars_len (l : List At) (n : Nat) : (pars l n).length ≤ n := by
  induction n with
  | zero => simp [pars]
  | succ n ih => rw [pars_succ, List.length_append]; split <;> simp <;> omega
/-- the greatest Off among params 0 .. n - 1; -1 if there is none -/
def most (l : List At) : Nat → Int
  | 0 => -1
  | n + 1 => max (most l n) (best n l)
theorem most_ge (l : List At) (n : Nat) : -1 ≤ most l n := by
  induction n with
  | zero => simp [most]
  | succ n ih => simp only [most]; omega
/-- the norm -/
def norm (l : List At) : List At := (if most l 5 < best (-1) l then [((-1 : Int), best (-1) l)] else []) ++ pars l 5
theorem norm_len (l : List At) : (norm l).length ≤ 6 := by
  have := pars_len l 5
  unfold norm
  split <;> simp <;> omega
open Classical in
noncomputable def normOf (l : List At) : Option (List At) := if 1 ≤ l.length ∧ l.length ≤ 100 ∧ AllOk l then some (norm l) else none
def up (k : Int) (l : List At) : List At := l.map fun a => (a.1, a.2 + k)
/-- the value of an atom -/
def val (env : List Int) (a : At) : Int := if a.1 = -1 then a.2 else env.getD a.1.toNat 0 + a.2
def value (env : List Int) : List At → Int
  | [] => 0
  | a :: r => max (val env a) (value env r)
theorem value_ge (env : List Int) (l : List At) : 0 ≤ value env l := by
  induction l with
  | nil => simp [value]
  | cons a r ih => simp only [value]; omega
theorem value_append (env : List Int) (a b : List At) : value env (a ++ b) = max (value env a) (value env b) := by
  induction a with
  | nil => simp only [List.nil_append, value]; have := value_ge env b; omega
  | cons x r ih => simp only [List.cons_append, value, ih]; omega
end Go.Proofs.YtgebjnoicgmdoaaGreatDoor.Nm
