/- ResidOk of the program. -/
/- NormFree of the reference model. -/
import Derived.Test.YtgebjnoicgmdoaaGreatDoorNMap
import Derived.Test.YtgebjnoicgmdoaaGreatDoorMeth
import Derived.Test.YtgebjnoicgmdoaaGreatDoorNMath4
import Derived.Test.YtgebjnoicgmdoaaGreatDoorOwnO
import Derived.Test.YtgebjnoicgmdoaaGreatDoorSlc
import Derived.Test.YtgebjnoicgmdoaaGreatDoorSpec

namespace Go.Proofs.YtgebjnoicgmdoaaGreatDoor
open Go.RowKit

set_option maxRecDepth 100000 in
set_option maxHeartbeats 800000 in
theorem numberIsNeeded_any (w : World) (B : Nat) (b off n c : Nat) (l : List (Int × Int)) (hB : B ≤ w.heap.size) (hl : TokR w B (some ⟨b, off, none⟩) n l) (hn : (n : Int) ≤ 140737488355328) (h1 : 1 ≤ n) (hnc : n ≤ c) (hok : Nm.AllOk l) :
    Calls Tryz.prog 125 #[.slice (some ⟨b, off, none⟩) n c] w fun e w' => e = .returned (.bool (Nm.exceeds ((l.getD 0 (0, 0)).2 - 1) (l.drop 1))) ∧ Below w.heap.size w w' := by
  obtain ⟨b', off', e, hb, hc⟩ := hl.2 (by omega)
  injection e with e
  injection e with e1 e2
  subst e1; subst e2
  obtain ⟨c1, c2⟩ := hc 0 (by omega)
  have h2 := (Nm.atOk_iff _).1 (hok 0 (by have := hl.1; omega))
  obtain ⟨x, hx⟩ : ∃ x, (l.getD 0 (0, 0)).2 = x := ⟨_, rfl⟩
  rw [hx] at c2 h2 ⊢
  obtain ⟨_, _, h3, h4⟩ := h2
  rw [Nat.zero_mul, Nat.add_zero] at c2
  obtain ⟨A', hsl, hA'⟩ := run_tail b off n c h1 hnc
  have HR := Lib.hid (hA' _ _ _ hl)
  have HNE := numberExceeds_any w.drew B (x - 1) A' (n - 1) (c - 1) (l.drop 1) hB HR.out (by omega)
  have HN := Lib.hid HNE
  have hi0 : 0 < n := by omega
  clear hc c1 hl hA' hx hok HNE
  go_enter Tryz.func125, Tryz.ntmps125
  go_wp2_with fail
  refine region_tail 7 (by kernel_rfl) (by kernel_rfl) ?_
  simp only [List.take_succ_cons, List.take_zero, List.drop_succ_cons, List.drop_zero]
  repeat still_step
  refine wpStill_nil ?_
  go_wp2_with fail
  refine (HN.out).mono ?_
  rintro e w3 ⟨rfl, hb3⟩
  have HB3 := Lib.hid ((Below.refl w.heap.size w).drew.trans hb3)
  go_wp2
  go_ret
  exact ⟨by rw [List.drop_one]; rfl, HB3.out⟩

end Go.Proofs.YtgebjnoicgmdoaaGreatDoor

namespace Go.Proofs.YtgebjnoicgmdoaaGreatDoor
open Go.RowKit

theorem info_atoms : (Tryz.prog.info? 138).map (fun i => (i.zero, i.size, i.bytes)) = some (some (.slice none 0 0), 1, 24) := by kernel_rfl
/-- a pile of rows of atoms, its top first, each row of its own -/
def PileD (w : World) (base g D c : Nat) (cs : List (List (Int × Int))) : Prop :=
  cs.length = D ∧ ∃ vals : List Value, w.ownsRow base 138 1 (.slice (some ⟨g, 0, none⟩) D c) D vals ∧
    ∀ (i : Nat) (a : List (Int × Int)), cs.reverse[i]? = some a → ∃ ga ca, vals[i]? = some (Value.slice (some ⟨ga, 0, none⟩) a.length ca) ∧ OwnA w base (some ⟨ga, 0, none⟩) a.length ca a
theorem PileD.below {w w' : World} {base g D c : Nat} {cs : List (List (Int × Int))} (h : PileD w base g D c cs) (hb : Below w.heap.size w w') : PileD w' base g D c cs := by
  obtain ⟨h1, vals, h2, h3⟩ := h
  refine ⟨h1, vals, own_below' h2 hb, fun i a ha => ?_⟩
  obtain ⟨ga, ca, q1, q2⟩ := h3 i a ha
  exact ⟨ga, ca, q1, own_below' q2 hb⟩
theorem PileD.alloc {w : World} {base g D c : Nat} {cs : List (List (Int × Int))} (h : PileD w base g D c cs) (o : Obj) : PileD (w.alloc o) base g D c cs :=
  h.below ((Below.refl _ _).alloc (Nat.le_refl _) o)
theorem PileD.drew {w : World} {base g D c : Nat} {cs : List (List (Int × Int))} (h : PileD w base g D c cs) : PileD w.drew base g D c cs := h
/-- the pile without its top ones -/
theorem PileD.drop {w : World} {base g D c : Nat} {cs : List (List (Int × Int))} (h : PileD w base g D c cs) (k : Nat) (hk : k ≤ D) : PileD w base g (D - k) c (cs.drop k) := by
  obtain ⟨h1, vals, h2, h3⟩ := h
  refine ⟨by rw [List.length_drop, h1], vals.take (D - k), own_take h2 (by omega), fun i a ha => ?_⟩
  rw [List.reverse_drop, h1] at ha
  have hi : i < D - k := by
    have := (List.getElem?_eq_some_iff.1 ha).1
    rw [List.length_take] at this
    omega
  rw [List.getElem?_take_of_lt hi] at ha
  obtain ⟨ga, ca, q1, q2⟩ := h3 i a ha
  exact ⟨ga, ca, by rw [List.getElem?_take_of_lt hi]; exact q1, q2⟩
/-- what an append gives -/
theorem PileD.push {w w' : World} {base g D c ga ca : Nat} {cs : List (List (Int × Int))} {a : List (Int × Int)} {v' : Value} {vals : List Value} (hD : cs.length = D)
    (h2 : w.ownsRow base 138 1 (.slice (some ⟨g, 0, none⟩) D c) D vals) (h3 : ∀ (i : Nat) (a : List (Int × Int)), cs.reverse[i]? = some a → ∃ ga ca, vals[i]? = some (Value.slice (some ⟨ga, 0, none⟩) a.length ca) ∧ OwnA w base (some ⟨ga, 0, none⟩) a.length ca a)
    (ho : OwnA w base (some ⟨ga, 0, none⟩) a.length ca a) (hg : w.grownBy w' (Value.slice (some ⟨g, 0, none⟩) D c).ownBlock)
    (hown : w'.ownsRow base 138 1 v' (D + 1) (vals ++ [Value.slice (some ⟨ga, 0, none⟩) a.length ca])) : ∃ g' c', v' = .slice (some ⟨g', 0, none⟩) (D + 1) c' ∧ PileD w' base g' (D + 1) c' (a :: cs) := by
  obtain ⟨g', c', rfl⟩ := own_form hown (by omega)
  refine ⟨g', c', rfl, by rw [List.length_cons, hD], _, hown, fun i x hx => ?_⟩
  have hvl : vals.length = D := by have := h2.1; omega
  have hk : ∀ {gx cx : Nat} {x : List (Int × Int)}, OwnA w base (some ⟨gx, 0, none⟩) x.length cx x → OwnA w' base (some ⟨gx, 0, none⟩) x.length cx x := fun h => h.kept hg (own_apartK h h2 (by decide))
  rw [List.reverse_cons] at hx
  by_cases hi : i < D
  · rw [List.getElem?_append_left (by rw [List.length_reverse, hD]; exact hi)] at hx
    obtain ⟨gx, cx, q1, q2⟩ := h3 i x hx
    exact ⟨gx, cx, by rw [List.getElem?_append_left (by omega)]; exact q1, hk q2⟩
  · have hiD : i = D := by
      have := (List.getElem?_eq_some_iff.1 hx).1
      simp at this
      omega
    subst hiD
    rw [List.getElem?_append_right (by rw [List.length_reverse, hD]; exact Nat.le_refl _), List.length_reverse, hD, Nat.sub_self] at hx
    obtain rfl : a = x := by simpa using hx
    exact ⟨ga, ca, by rw [List.getElem?_append_right (by omega), hvl, Nat.sub_self]; rfl, hk ho⟩
/-- the top one is put anew -/
theorem PileD.top {w : World} {base g d c ga ca : Nat} {s : List (List (Int × Int))} {a a' : List (Int × Int)} (h : PileD w base g (d + 1) c (a :: s)) (ho : OwnA w base (some ⟨ga, 0, none⟩) a'.length ca a') :
    PileD (w.setCell ⟨g, d, none⟩ (.slice (some ⟨ga, 0, none⟩) a'.length ca)) base g (d + 1) c (a' :: s) := by
  obtain ⟨h1, vals, h2, h3⟩ := h
  have hs : s.length = d := by simpa using h1
  have hvl : vals.length = d + 1 := by have := h2.1; omega
  have hk : ∀ {gx cx : Nat} {x : List (Int × Int)}, OwnA w base (some ⟨gx, 0, none⟩) x.length cx x → OwnA (w.setCell ⟨g, d, none⟩ (.slice (some ⟨ga, 0, none⟩) a'.length ca)) base (some ⟨gx, 0, none⟩) x.length cx x := fun h => h.kept (put_grown w g d _) (own_apartK h h2 (by decide))
  refine ⟨by simpa using hs, _, own_put h2 d _, fun i x hx => ?_⟩
  rw [List.reverse_cons] at hx
  by_cases hi : i < d
  · have hx2 : (a :: s).reverse[i]? = some x := by
      rw [List.reverse_cons, List.getElem?_append_left (by rw [List.length_reverse, hs]; exact hi)]
      rw [List.getElem?_append_left (by rw [List.length_reverse, hs]; exact hi)] at hx
      exact hx
    obtain ⟨gx, cx, q1, q2⟩ := h3 i x hx2
    exact ⟨gx, cx, by rw [List.getElem?_set_ne (by omega)]; exact q1, hk q2⟩
  · have hid : i = d := by
      have := (List.getElem?_eq_some_iff.1 hx).1
      simp at this
      omega
    subst hid
    rw [List.getElem?_append_right (by rw [List.length_reverse, hs]; exact Nat.le_refl _), List.length_reverse, hs, Nat.sub_self] at hx
    obtain rfl : a' = x := by simpa using hx
    exact ⟨ga, ca, by rw [List.getElem?_set_self (by omega)], hk ho⟩
/-- what lies at a place of the pile -/
theorem PileD.at {w : World} {base g D c i : Nat} {cs : List (List (Int × Int))} {a : List (Int × Int)} (h : PileD w base g D c cs) (ha : cs.reverse[i]? = some a) :
    ∃ ga ca, w.cell? ⟨g, i, none⟩ = some (.slice (some ⟨ga, 0, none⟩) a.length ca) ∧ OwnA w base (some ⟨ga, 0, none⟩) a.length ca a := by
  obtain ⟨h1, vals, h2, h3⟩ := h
  obtain ⟨ga, ca, q1, q2⟩ := h3 i a ha
  have hk := h2.cells (g := g) rfl i _ q1
  rw [own_adds] at hk
  exact ⟨ga, ca, hk, q2⟩
end Go.Proofs.YtgebjnoicgmdoaaGreatDoor
