/- The table of residuals: one look at it. -/
import Derived.Test.YtghoofgfimeedaaDoorOnce3

namespace Go.Proofs.YtghoofgfimeedaaDoor
open Go.RowKit

/-- the residual of a level for a sign -/
abbrev rsd (l : List (Int × Int)) (S : Nat) : List (Int × Int) := Nm.rnorm (Nm.wl (S : Int) l)
/-- a row of the table -/
def RowOk (w : World) (b : Nat) (l : List (Int × Int)) (cs : Array Value) (S : Nat) : Prop :=
  (cs[1 + S * 3]? = some (.int .u32 0) ∧ cs[1 + S * 3 + 1]? = some (.int .i32 0)) ∨
  (cs[1 + S * 3]? = some (.int .u32 1) ∧ ∃ A' c', cs[97 + S]? = some (.slice A' (rsd l S).length c') ∧ OwnO w (b + 1) A' (rsd l S).length c' (tokCells (rsd l S)))
/-- the table -/
def Tab (w : World) (b : Nat) (A : Option Addr) (n c : Nat) (l : List (Int × Int)) (cs : Array Value) : Prop :=
  Blk w b 134 cs ∧ cs.size = 129 ∧ cs[0]? = some (.slice A n c) ∧ ∀ S, S < 32 → RowOk w b l cs S
theorem Tab.kept {w w' : World} {b : Nat} {A : Option Addr} {n c : Nat} {l : List (Int × Int)} {cs : Array Value} (h : Tab w b A n c l cs) (hb : Below w.heap.size w w') : Tab w' b A n c l cs := by
  refine ⟨h.1.below hb h.1.lt, h.2.1, h.2.2.1, fun S hS => ?_⟩
  rcases h.2.2.2 S hS with h1 | ⟨h1, A', c', h2, h3⟩
  · exact .inl h1
  · exact .inr ⟨h1, A', c', h2, at_below' h3 hb⟩
theorem laidCs_get {cs : Array Value} {off j k : Nat} {v : Value} (h1 : k ≠ off) (h2 : k ≠ off + 1) (h3 : k ≠ j) : (laidCs cs off j v)[k]? = cs[k]? := by
  unfold laidCs
  rw [Array.getElem?_setIfInBounds_ne (Ne.symm h2), Array.getElem?_setIfInBounds_ne (Ne.symm h1), Array.getElem?_setIfInBounds_ne (Ne.symm h3), Array.getElem?_setIfInBounds_ne (Ne.symm h2)]
theorem laidCs_size {cs : Array Value} {off j : Nat} {v : Value} : (laidCs cs off j v).size = cs.size := by simp [laidCs]
theorem laidCs_off {cs : Array Value} {off j : Nat} {v : Value} (h : off < cs.size) : (laidCs cs off j v)[off]? = some (.int .u32 1) := by
  unfold laidCs
  rw [Array.getElem?_setIfInBounds_ne (by omega), Array.getElem?_setIfInBounds_self_of_lt (by simpa using h)]
theorem laidCs_row {cs : Array Value} {off j : Nat} {v : Value} (h : j < cs.size) (h1 : j ≠ off) (h2 : j ≠ off + 1) : (laidCs cs off j v)[j]? = some v := by
  unfold laidCs
  rw [Array.getElem?_setIfInBounds_ne (Ne.symm h2), Array.getElem?_setIfInBounds_ne (Ne.symm h1), Array.getElem?_setIfInBounds_self_of_lt (by simpa using h)]
theorem Tab.laid {w w' : World} {b S n c c5 : Nat} {A A5 : Option Addr} {l : List (Int × Int)} {cs : Array Value} (h : Tab w b A n c l cs) (hS : S < 32)
    (hblk : Blk w' b 134 (laidCs cs (1 + S * 3) (97 + S) (.slice A5 (rsd l S).length c5))) (ho : OwnO w' (b + 1) A5 (rsd l S).length c5 (tokCells (rsd l S))) (hk : Kp b w w') :
    Tab w' b A n c l (laidCs cs (1 + S * 3) (97 + S) (.slice A5 (rsd l S).length c5)) := by
  refine ⟨hblk, by rw [laidCs_size]; exact h.2.1, by rw [laidCs_get (by omega) (by omega) (by omega)]; exact h.2.2.1, fun S' hS' => ?_⟩
  have hsz := h.2.1
  by_cases e : S' = S
  · subst e
    exact .inr ⟨laidCs_off (by omega), A5, c5, laidCs_row (by omega) (by omega) (by omega), ho⟩
  · unfold RowOk
    rw [laidCs_get (by omega) (by omega) (by omega), laidCs_get (by omega) (by omega) (by omega), laidCs_get (by omega) (by omega) (by omega)]
    rcases h.2.2.2 S' hS' with h1 | ⟨h1, A', c', h2, h3⟩
    · exact .inl h1
    · exact .inr ⟨h1, A', c', h2, at_kpT h3 hk (by omega)⟩

theorem Kp.cellT {bc g o : Nat} {a b : World} (h : Kp bc a b) (hg : g ≠ bc) (hl : g < a.heap.size) : b.cell? ⟨g, o, none⟩ = a.cell? ⟨g, o, none⟩ := by
  have hb := h.block g hl (fun e => by injection e with e; exact hg e)
  simp only [World.cell?, hb]
theorem OwnO.of_drew {w : World} {base : Nat} {A : Option Addr} {n c : Nat} {xs : List Value} (h : OwnO w base A n c xs) : OwnO w.drew base A n c xs := h
theorem Tab.of_drew {w : World} {b : Nat} {A : Option Addr} {n c : Nat} {l : List (Int × Int)} {cs : Array Value} (h : Tab w b A n c l cs) : Tab w.drew b A n c l cs := h
/-- what a look at the table gives -/
def AtOut (w : World) (b : Nat) (A : Option Addr) (n c : Nat) (l : List (Int × Int)) (S : Nat) (e : Ending) (w' : World) : Prop :=
  ∃ A' c' cs', e = .returned (.slice A' (rsd l S).length c') ∧ OwnO w' (b + 1) A' (rsd l S).length c' (tokCells (rsd l S)) ∧ Tab w' b A n c l cs' ∧ Kp b w w'

set_option maxRecDepth 100000 in
set_option maxHeartbeats 6400000 in
theorem at_any (w : World) (B b S : Nat) (A : Option Addr) (n c : Nat) (l : List (Int × Int)) (T : TypeId) (pv : Value) (cs : Array Value) (h0 : 0 < B) (hB : B ≤ w.heap.size) (hBb : B ≤ b)
    (hl : TokR w B A n l) (hok : Lv.levelOk l = true) (hS : S < 32) (hE : ErrAt w T pv) (htab : Tab w b A n c l cs) :
    Calls Tryd.prog 117 #[.pointer (some ⟨b, 0, none⟩), .int .i64 S] w (AtOut w b A n c l S) := by
  have hmf : ∀ (fn : Fn) (first cap : Array Value) (w : World), (Instr.makeFunc fn first cap).run Tryd.prog w = .ok (.func fn first cap) w := fun _ _ _ _ => rfl
  have hbt := htab.1.lt
  have n1 : (0 : Int) ≤ (S : Int) := by omega
  have n2 : (S : Int) < 32 := by omega
  have hba : Below w.heap.size w ((w.alloc (.cells #[.pointer (some ⟨b, 0, none⟩)] 148)).alloc (.cells #[.int .i64 S] 3)) := ((Below.refl _ _).alloc (Nat.le_refl _) _).alloc (by simp) _
  have p1 : ((w.alloc (.cells #[.pointer (some ⟨b, 0, none⟩)] 148)).alloc (.cells #[.int .i64 S] 3)).cell? ⟨w.heap.size, 0, none⟩ = some (.pointer (some ⟨b, 0, none⟩)) := ((Blk.made w 148 #[.pointer (some ⟨b, 0, none⟩)]).alloc (.cells #[.int .i64 S] 3)).cell 0
  have p2 : ((w.alloc (.cells #[.pointer (some ⟨b, 0, none⟩)] 148)).alloc (.cells #[.int .i64 S] 3)).cell? ⟨w.heap.size + 1, 0, none⟩ = some (.int .i64 S) := by simp
  have hz2 : ((w.alloc (.cells #[.pointer (some ⟨b, 0, none⟩)] 148)).alloc (.cells #[.int .i64 S] 3)).heap.size = w.heap.size + 2 := by simp
  have htab2 := htab.kept hba
  have hl2 := hl.below (hba.mono hB)
  have hE2 := hE.below (hba.mono hB) h0
  have hwa : ∀ x, Below w.heap.size w x → x.heap.size ≥ w.heap.size := fun _ h => h.size
  generalize hW : ((w.alloc (.cells #[.pointer (some ⟨b, 0, none⟩)] 148)).alloc (.cells #[.int .i64 S] 3)) = wa at hba p1 p2 hz2 htab2 hl2 hE2
  have HW := Lib.hid hW
  have HP1 := Lib.hid p1
  have HP2 := Lib.hid p2
  have HTAB := Lib.hid htab2
  have HBA := Lib.hid hba
  have HDO : ∀ wx : World, Below wa.heap.size wa wx → Hid (cs[1 + S * 3]? = some (.int .u32 0) → cs[1 + S * 3 + 1]? = some (.int .i32 0) →
      Calls Tryd.prog 131 #[.pointer (some ⟨b, 1 + S * 3, none⟩), .func (.func 132) #[] #[.pointer (some ⟨w.heap.size, 0, none⟩), .pointer (some ⟨w.heap.size + 1, 0, none⟩)]] wx (DoneOut wx b (1 + S * 3) (97 + S) cs (rsd l S))) := fun wx hx h1 h2 =>
    do_first wx B b w.heap.size (w.heap.size + 1) S (1 + S * 3) A n c l T pv cs h0 (by have := hx.size; omega) hBb (hl2.below (hx.mono (by omega))) hok hS (by omega) (hE2.below (hx.mono (by omega)) h0) (htab2.1.below hx (by omega)) htab2.2.1 htab2.2.2.1
      ((hx.cell (p := ⟨w.heap.size, 0, none⟩) (by show w.heap.size < _; omega)).trans p1) ((hx.cell (p := ⟨w.heap.size + 1, 0, none⟩) (by show w.heap.size + 1 < _; omega)).trans p2) (by omega) (by omega) h1 h2
  rcases htab2.2.2.2 S hS with ⟨h1, h2⟩ | ⟨h1, A', c', h2, h3⟩
  · have HDO' := fun wx hx => Lib.hid ((HDO wx hx).out h1 h2)
    clear HDO htab htab2 hba hl hl2 hE hE2 h1 h2 hW p1 p2
    go_enter Tryd.func117, Tryd.ntmps117
    go_wp2_with fail
    rw [HW.out]
    have p1 := HP1.out
    have p2 := HP2.out
    go_region_law (first
      | (go_simp
         go_at_call 131
         refine (HDO' _ (Below.refl _ _).drew).out.mono ?_
         rintro e w5 ⟨rfl, A5, c5, hk5, ho5, kp5⟩
         have kp05 : Kp b wa w5 := ((Kp.refl b wa).drew).trans kp5
         have q1 := (Kp.cellT kp05 (by omega) (by omega)).trans HP1.out
         have q2 := (Kp.cellT kp05 (by omega) (by omega)).trans HP2.out
         have q3 := (hk5.cell (97 + S)).trans (laidCs_row (by have := HTAB.out.2.1; omega) (by omega) (by omega))
         have ho6 : OwnO w5 (b + 1) A5 (rsd l S).length c5 (tokCells (rsd l S)) := at_base ho5 (by simp; omega)
         have HT5 := Lib.hid (HTAB.out.laid hS hk5 ho6 kp05)
         have HO5 := Lib.hid ho6
         have HK5 := Lib.hid ((Kp.of_below (bc := b) HBA.out).trans kp05)
         clear hk5 ho5 kp5 ho6 kp05))
    all_goals
      clear HDO' p1 p2
      go_wp2_with fail
      go_region
    all_goals
      go_wp2
      go_ret
      exact ⟨A5, c5, _, rfl, OwnO.of_drew HO5.out, Tab.of_drew HT5.out, HK5.out.drew⟩
  · have hd := (htab2.1.cell (1 + S * 3)).trans h1
    have q3 := (htab2.1.cell (97 + S)).trans h2
    have HD := Lib.hid hd
    have HQ3 := Lib.hid q3
    have HO := Lib.hid h3
    clear HDO htab htab2 hba hl hl2 hE hE2 h1 h2 h3 hW p1 p2 hd q3
    go_enter Tryd.func117, Tryd.ntmps117
    go_wp2_with fail
    rw [HW.out]
    have p1 := HP1.out
    have p2 := HP2.out
    go_region_law (first
      | (go_simp
         go_at_call 131
         refine (do_done wa.drew ⟨b, 1 + S * 3, none⟩ _ HD.out).mono ?_
         rintro e w5 ⟨rfl, rfl⟩
         have q3 := HQ3.out))
    all_goals
      go_wp2_with fail
      go_region
    all_goals
      go_wp2
      go_ret
      exact ⟨A', c', _, rfl, OwnO.of_drew (OwnO.of_drew HO.out), Tab.of_drew (Tab.of_drew HTAB.out), (Kp.of_below HBA.out).drew.drew⟩
end Go.Proofs.YtghoofgfimeedaaDoor
