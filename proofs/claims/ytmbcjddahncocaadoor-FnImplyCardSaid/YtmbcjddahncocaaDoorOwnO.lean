/- ResidLe of the program (written by tools/mkrle.py). -/
/- Plain facts on ResidLe: it holds for every env of the sign, and else an env of the sign with one great parameter tells. -/
/- Slices of levels: how they are read, substitution in plain lists, levelsOk of the program. -/
/- Plain facts on levels: evaluation of a join and of successors. -/
/- Plain facts: two levels are compared for all values of the parameters. -/
/- Rows of atoms of the call's own that may begin inside their block: what they read, what keeps them, and the laws' marks on them. -/
import Derived.Test.YtmbcjddahncocaaDoorROk
import Derived.Test.YtmbcjddahncocaaDoorJoin
import Derived.Test.YtmbcjddahncocaaDoorParams
import Derived.Test.YtmbcjddahncocaaDoorSlc
import Derived.Test.YtmbcjddahncocaaDoorSpec
import Derived.Test.YtmbcjddahncocaaDoorNMath3

namespace Go.Proofs.YtmbcjddahncocaaDoor
open Go.RowKit

namespace Nm
/-- the atom y serves for x where positive parameters are at least 1 -/
def RFits (x y : At) : Prop := x.1 = y.1 ∧ x.2 ≤ y.2 ∨ x.1 = -1 ∧ 0 ≤ y.1 ∧ x.2 ≤ y.2 + 1
/-- some atom of b serves for x -/
def ratomLe (x : At) (b : List At) : Prop := ∃ k, k < b.length ∧ RFits x (b.getD k (0, 0))
open Classical in
noncomputable def ratomLeB (x : At) (b : List At) : Bool := decide (ratomLe x b)
theorem ratomLeB_iff (x : At) (b : List At) : ratomLeB x b = true ↔ ratomLe x b := by simp [ratomLeB]
theorem ratomLeB_no {x : At} {b : List At} (h : ¬ ratomLe x b) : ratomLeB x b = false := by simp [ratomLeB, h]
open Classical in
noncomputable def residLe (s : Int) (a b : List At) : Bool := decide (ROk s a ∧ ROk s b ∧ ∀ k, k < a.length → ratomLe (a.getD k (0, 0)) b)
theorem residLe_iff (s : Int) (a b : List At) : residLe s a b = true ↔ ROk s a ∧ ROk s b ∧ ∀ k, k < a.length → ratomLe (a.getD k (0, 0)) b := by simp [residLe]
theorem residLe_no {s : Int} {a b : List At} (h : ¬ (ROk s a ∧ ROk s b ∧ ∀ k, k < a.length → ratomLe (a.getD k (0, 0)) b)) : residLe s a b = false := by
  simp only [residLe, decide_eq_false_iff_not]; exact h
theorem residLe_notA {s : Int} {a b : List At} (h : residOk s a = false) : residLe s a b = false :=
  residLe_no (fun hh => by rw [(residOk_iff s a).2 hh.1] at h; cases h)
theorem residLe_notB {s : Int} {a b : List At} (h : residOk s b = false) : residLe s a b = false :=
  residLe_no (fun hh => by rw [(residOk_iff s b).2 hh.2.1] at h; cases h)
end Nm

set_option maxHeartbeats 1600000 in
theorem residAtomLe_any (w : World) (B : Nat) (p x : Int) (A : Option Addr) (n c : Nat) (l : List (Int × Int)) (hB : B ≤ w.heap.size) (hl : TokR w B A n l) (hn : (n : Int) ≤ 140737488355328) (hok : Nm.AllOk l) :
    Calls Tryd.prog 116 #[.agg #[.int .i64 p, .int .i64 x], .slice A n c] w fun e w' => e = .returned (.bool (Nm.ratomLeB (p, x) l)) ∧ Below w.heap.size w w' := by
  have HB0 : Hid (Below w.heap.size w (w.alloc (.cells #[.int .i64 p, .int .i64 x] 68))) := (Below.refl _ _).alloc (Nat.le_refl _) _
  have HK0 : Hid (Blk (w.alloc (.cells #[.int .i64 p, .int .i64 x] 68)) w.heap.size 68 #[.int .i64 p, .int .i64 x]) := Blk.made _ _ _
  have HOK := Lib.hid hok
  clear hok
  go_enter Tryd.func116, Tryd.ntmps116
  go_wp2
  go_loopw [9] (fun i wr => ∃ k : Nat, k ≤ n ∧ i = .int .i64 k ∧ Hid (∀ j, j < k → ¬ Nm.RFits (p, x) (l.getD j (0, 0))) ∧ Below w.heap.size w wr ∧ Blk wr w.heap.size 68 #[.int .i64 p, .int .i64 x]) (fun i _ => n - (intOf i).toNat)
  case atStart => exact ⟨0, Nat.zero_le _, rfl, (fun j hj => absurd hj (by omega)), HB0.out, HK0.out⟩
  case round =>
    obtain ⟨k, hk, rfl, HA, hbel, hblk⟩ := hrel
    by_cases hlt : k < n
    · obtain ⟨b, off, rfl, hb, hc⟩ := hl.2 (by omega)
      obtain ⟨c1, c2⟩ := hc k hlt
      have HL := Lib.hid hl.1
      have hat := (Nm.atOk_iff _).1 (HOK.out k (by rw [hl.1]; exact hlt))
      obtain ⟨t, ht⟩ : ∃ t, l.getD k (0, 0) = t := ⟨_, rfl⟩
      rw [ht] at c1 c2 hat
      obtain ⟨q, y⟩ := t
      simp only at hat
      obtain ⟨a1, a2, a3, a4⟩ := hat
      have HT := Lib.hid ht
      have k1 := (hbel.cell (p := ⟨b, off + k * 2, none⟩) (by show b < _; omega)).trans c1
      have k2 := (hbel.cell (p := ⟨b, off + k * 2 + 1, none⟩) (by show b < _; omega)).trans c2
      have hlt2 := hblk.lt
      have k3 : (wr.alloc (.cells #[.int .i64 q, .int .i64 y] 68)).cell? ⟨w.heap.size, 0, none⟩ = some (.int .i64 p) := (hblk.alloc _).cell 0
      have k4 : (wr.alloc (.cells #[.int .i64 q, .int .i64 y] 68)).cell? ⟨w.heap.size, 1, none⟩ = some (.int .i64 x) := (hblk.alloc _).cell 1
      have HBA := Lib.hid (hbel.alloc hbel.size (.cells #[.int .i64 q, .int .i64 y] 68))
      have HKA := Lib.hid (hblk.alloc (.cells #[.int .i64 q, .int .i64 y] 68))
      clear c1 c2 hc hl ht hblk
      have yes_of : Nm.RFits (p, x) (q, y) → Hid (Nm.ratomLeB (p, x) l = true) := fun h => (Nm.ratomLeB_iff _ _).2 ⟨k, by rw [HL.out]; exact hlt, by rw [HT.out]; exact h⟩
      have no_of : ¬ Nm.RFits (p, x) (q, y) → Hid (∀ j, j < k + 1 → ¬ Nm.RFits (p, x) (l.getD j (0, 0))) := by
        intro h j hj
        by_cases e : j = k
        · subst e; rw [HT.out]; exact h
        · exact HA.out j (by omega)
      by_cases epq : p = q
      · subst epq
        by_cases hx : x ≤ y
        · skip
          have HF := yes_of (.inl ⟨rfl, hx⟩)
          clear yes_of no_of 
          go_wp2
          go_ret
          exact ⟨by rw [HF.out]; rfl, HBA.out⟩
        · have dx : decide (x ≤ y) = false := by simp; omega
          by_cases ep : p = -1
          · subst ep
            have HA2 := no_of (fun h => by
              rcases h with h | h
              · exact hx h.2
              · exact absurd h.2.1 (by simp))
            clear yes_of no_of hx
            go_wp2
            go_roundw
            case rel => exact ⟨k + 1, by omega, by go_num, HA2.out, HBA.out, HKA.out⟩
            case measure => simp [intOf]; omega
          · have dp : (p == -1) = false := by simpa using ep
            have HA2 := no_of (fun h => by
              rcases h with h | h
              · exact hx h.2
              · exact ep h.1)
            clear yes_of no_of hx ep
            go_wp2
            go_roundw
            case rel => exact ⟨k + 1, by omega, by go_num, HA2.out, HBA.out, HKA.out⟩
            case measure => simp [intOf]; omega
      · have dq : (p == q) = false := by simpa using epq
        by_cases ep : p = -1
        · subst ep
          have dqn : (q != -1) = true := by simp; exact fun h => epq h.symm
          have dq0 : 0 ≤ q := by omega
          by_cases hx : x ≤ y + 1
          · skip
            have HF := yes_of (.inr ⟨rfl, dq0, hx⟩)
            clear yes_of no_of epq
            go_wp2
            go_ret
            exact ⟨by rw [HF.out]; rfl, HBA.out⟩
          · have dx : decide (x ≤ y + 1) = false := by simp; omega
            have HA2 := no_of (fun h => by
              rcases h with h | h
              · exact epq h.1
              · exact hx h.2.2)
            clear yes_of no_of hx epq
            go_wp2
            go_roundw
            case rel => exact ⟨k + 1, by omega, by go_num, HA2.out, HBA.out, HKA.out⟩
            case measure => simp [intOf]; omega
        · have dp : (p == -1) = false := by simpa using ep
          have HA2 := no_of (fun h => by
              rcases h with h | h
              · exact epq h.1
              · exact ep h.1)
          clear yes_of no_of epq ep
          go_wp2
          go_roundw
          case rel => exact ⟨k + 1, by omega, by go_num, HA2.out, HBA.out, HKA.out⟩
          case measure => simp [intOf]; omega
    · have HF : Hid (Nm.ratomLeB (p, x) l = false) := Nm.ratomLeB_no (fun ⟨j, hj, h1⟩ => HA.out j (by have := hl.1; omega) h1)
      clear hl
      go_wp2
      go_ret
      exact ⟨by rw [HF.out]; rfl, hbel⟩

end Go.Proofs.YtmbcjddahncocaaDoor

namespace Go.Proofs.YtmbcjddahncocaaDoor
namespace Nm

theorem rle_value {s : Int} {env : List Int} (he : EnvOf s env) {a b : List At} (hb : ROk s b) (h : ∀ k, k < a.length → ratomLe (a.getD k (0, 0)) b) : value env a ≤ value env b := by
  refine value_le (value_ge _ _) fun x hx => ?_
  obtain ⟨k, hk, rfl⟩ := getD_of_mem hx
  obtain ⟨j, hj, hf⟩ := h k hk
  have h3 := value_mem (env := env) (mem_getD hj)
  have h4 := hb.2.2.2.2.1 j hj
  generalize a.getD k (0, 0) = x at hf ⊢
  generalize b.getD j (0, 0) = y at hf h3 h4
  obtain ⟨p, u⟩ := x
  obtain ⟨q, v⟩ := y
  simp only [RFits] at hf h4
  rcases hf with ⟨rfl, h1⟩ | ⟨rfl, h1, h2⟩
  · by_cases ep : p = -1
    · simp only [val, ep, if_true] at h3 ⊢; omega
    · simp only [val, ep, if_false] at h3 ⊢; omega
  · rcases h4 with e | e
    · omega
    · have := he.2.1 q e
      simp only [val, if_true, show ¬ q = -1 by omega, if_false] at h3 ⊢
      omega

/-- the env of a sign that is great at p -/
def rpeak (s p : Int) : List Int := (List.range 5).map fun (i : Nat) => if Sg.has s i = true then (if (i : Int) = p then 1000 else 1) else 0
/-- the first k values of an env of a sign; where the answer is no, of the one that is great at p -/
def Part (s p : Int) (yes : Bool) (k : Nat) (env : List Int) : Prop := env.length = k ∧ ∀ j, j < k → (Sg.has s j = true → 1 ≤ env.getD j 0 ∧ env.getD j 0 ≤ 1000) ∧ (Sg.has s j = false → env.getD j 0 = 0) ∧ (yes = false → env.getD j 0 = (rpeak s p).getD j 0)
theorem Part.nil (s p : Int) (yes : Bool) : Part s p yes 0 [] := ⟨rfl, fun j hj => absurd hj (by omega)⟩
theorem Part.env {s p : Int} {yes : Bool} {env : List Int} (h : Part s p yes 5 env) : EnvOf s env ∧ envOk env = true := by
  have hall : ∀ x ∈ env, 0 ≤ x ∧ x ≤ 1000 := by
    intro x hx
    obtain ⟨j, hj, rfl⟩ := List.mem_iff_getElem.1 hx
    have h1 := h.2 j (by rw [← h.1]; exact hj)
    rw [List.getD_eq_getElem?_getD, List.getElem?_eq_getElem hj, Option.getD_some] at h1
    cases hh : Sg.has s j with
    | true => have := h1.1 hh; omega
    | false => have := h1.2.1 hh; omega
  refine ⟨⟨fun x hx => (hall x hx).1, fun p hp => ?_, fun p h0 h5' hp => ?_⟩, ?_⟩
  · have hb := has_bd hp
    exact ((h.2 p.toNat (by omega)).1 (by rw [show ((p.toNat : Nat) : Int) = p by omega]; exact hp)).1
  · exact (h.2 p.toNat (by omega)).2.1 (by rw [show ((p.toNat : Nat) : Int) = p by omega]; exact hp)
  · simp only [envOk, Bool.and_eq_true, decide_eq_true_eq, List.all_eq_true]
    exact ⟨h.1, fun x hx => hall x hx⟩
end Nm
end Go.Proofs.YtmbcjddahncocaaDoor

namespace Go.Proofs.YtmbcjddahncocaaDoor
open Go.RowKit

/-- a slice of levels: n cells below block B, each a slice of tokens that lie below B -/
def LvlR (w : World) (B : Nat) (A : Option Addr) (n : Nat) (ls : List (List (Int × Int))) : Prop :=
  ls.length = n ∧ (0 < n → ∃ b off, A = some ⟨b, off, none⟩ ∧ b < B ∧ ∀ k, k < n → ∃ Ak nk ck, w.cell? ⟨b, off + k, none⟩ = some (.slice Ak nk ck) ∧ TokR w B Ak nk (ls.getD k []) ∧ (nk : Int) ≤ 9223372036854775807)

theorem LvlR.below {w w' : World} {B : Nat} {A : Option Addr} {n : Nat} {ls : List (List (Int × Int))} (h : LvlR w B A n ls) (hb : Below B w w') : LvlR w' B A n ls :=
  ⟨h.1, fun h0 => by
    obtain ⟨b, off, rfl, hB, hc⟩ := h.2 h0
    refine ⟨b, off, rfl, hB, fun k hk => ?_⟩
    obtain ⟨Ak, nk, ck, c, t, m⟩ := hc k hk
    exact ⟨Ak, nk, ck, (hb.cell (p := ⟨b, off + k, none⟩) hB).trans c, t.below hb, m⟩⟩
theorem LvlR.more {w : World} {B B' : Nat} {A : Option Addr} {n : Nat} {ls : List (List (Int × Int))} (h : LvlR w B A n ls) (hB : B ≤ B') : LvlR w B' A n ls :=
  ⟨h.1, fun h0 => by
    obtain ⟨b, off, rfl, hb, hc⟩ := h.2 h0
    refine ⟨b, off, rfl, by omega, fun k hk => ?_⟩
    obtain ⟨Ak, nk, ck, c, t, m⟩ := hc k hk
    exact ⟨Ak, nk, ck, c, t.more hB, m⟩⟩

/-- what stands for one token -/
def piece (ls : List (List (Int × Int))) (t : Int × Int) : Option (List (Int × Int)) := if t.1 = 4 then (if t.2 < (ls.length : Int) then some (ls.getD t.2.toNat []) else none) else some [t]
def sub (ls : List (List (Int × Int))) : List (Int × Int) → Option (List (Int × Int))
  | [] => some []
  | t :: r => (piece ls t).bind fun p => (sub ls r).map fun q => p ++ q
end Go.Proofs.YtmbcjddahncocaaDoor

namespace Go.Proofs.YtmbcjddahncocaaDoor

theorem eval_some {env : List Int} {l : List (Int × Int)} (hok : Lv.levelOk l = true) : ∃ v, Lv.eval env l = some v := by
  obtain ⟨u, hu⟩ := Lv.run_of_ok (env := env) hok
  exact ⟨u, by unfold Lv.eval; rw [if_pos hok, hu]⟩
end Go.Proofs.YtmbcjddahncocaaDoor

namespace Go.Proofs.YtmbcjddahncocaaDoor.Dc
open Go.Proofs.YtmbcjddahncocaaDoor.Nm

/-- the residual of a level for a sign -/
abbrev rs (l : List (Int × Int)) (s : Int) : List (Int × Int) := rnorm (wl s l)
theorem ok_two {l : List (Int × Int)} (h : Lv.levelOk l = true) : 1 ≤ l.length ∧ l.length ≤ 24 := by
  simp only [Lv.levelOk, Bool.and_eq_true, decide_eq_true_eq] at h
  omega
theorem wl_fine2 {s : Int} {l : List (Int × Int)} (h : Lv.levelOk l = true) : wl s l ≠ [] ∧ Pst s (wl s l) ∧ AllOk (wl s l) ∧ ∀ x ∈ wl s l, x.2 ≤ 24 := by
  obtain ⟨a, ha⟩ := wrun_one (s := s) h
  have hl := (ok_two h).2
  have hf := wfine_run (k := 0) (fun a ha => by simp at ha) ha
  have hfa := hf a (by simp)
  rw [wl_of ha]
  exact ⟨hfa.1, hfa.2.1, hf.allOk (by omega) (by simp), fun x hx => by have := (hfa.2.2 x hx).2.2.2; omega⟩
theorem rs_rok {s : Int} {l : List (Int × Int)} (h : Lv.levelOk l = true) (hs : Sg.isSign s = true) : ROk s (rs l s) :=
  have hf := wl_fine2 (s := s) h
  rnorm_rok hs hf.1 hf.2.1 hf.2.2.1
theorem rs_small {s : Int} {l : List (Int × Int)} (h : Lv.levelOk l = true) : ∀ x ∈ rs l s, x.2 ≤ 24 := fun x hx => (wl_fine2 (s := s) h).2.2.2 x (rnorm_sub hx)

/-- the env of a sign that is N at p -/
def gpeak (N s p : Int) : List Int := (List.range 5).map fun (i : Nat) => if Sg.has s i = true then (if (i : Int) = p then N else 1) else 0
theorem gpeak_len (N s p : Int) : (gpeak N s p).length = 5 := by simp [gpeak]
theorem gpeak_get (N s p : Int) (k : Nat) (hk : k < 5) : (gpeak N s p).getD k 0 = if Sg.has s k = true then (if (k : Int) = p then N else 1) else 0 := by
  simp [gpeak, List.getD_eq_getElem?_getD, hk]
theorem gpeak_env {N s p : Int} (hN : 1 ≤ N) : EnvOf s (gpeak N s p) := by
  refine ⟨fun x hx => ?_, fun q hq => ?_, fun q h0 h5 hq => ?_⟩
  · simp only [gpeak, List.mem_map] at hx
    obtain ⟨i, _, rfl⟩ := hx
    split
    · split <;> omega
    · omega
  · have hb := has_bd hq
    rw [gpeak_get _ _ _ _ (by omega), show ((q.toNat : Nat) : Int) = q by omega, if_pos hq]
    split <;> omega
  · rw [gpeak_get _ _ _ _ (by omega), show ((q.toNat : Nat) : Int) = q by omega, if_neg (by rw [hq]; decide)]
/-- an atom that no atom of b serves for is greater at its peak -/
theorem peak_gt {N M s : Int} {b : List At} {x : At} (hb : ROk s b) (hbM : ∀ y ∈ b, y.2 ≤ M) (hN : M + 2 ≤ N) (hM : 0 ≤ M) (hx0 : -1 ≤ x.1) (hx5 : x.1 < 5) (hxo : 0 ≤ x.2) (hxs : x.1 = -1 ∨ Sg.has s x.1 = true) (h : ¬ ratomLe x b) :
    value (gpeak N s x.1) b < val (gpeak N s x.1) x := by
  obtain ⟨p, u⟩ := x
  simp only at hx0 hx5 hxo hxs h ⊢
  have H : ∀ y ∈ b, val (gpeak N s p) y ≤ val (gpeak N s p) (p, u) - 1 := by
    intro y hy
    obtain ⟨j, hj, rfl⟩ := getD_of_mem hy
    have hby := hb.2.2.1.mem hy
    have h5 := hbM _ hy
    have hpy := hb.2.2.2.2.1 j hj
    have hn : ¬ RFits (p, u) (b.getD j (0, 0)) := fun hf => h ⟨j, hj, hf⟩
    generalize b.getD j (0, 0) = y at hby h5 hpy hn ⊢
    obtain ⟨q, v⟩ := y
    simp only [RFits] at hn
    simp only at hby h5 hpy
    have hq1 : ∀ _ : ¬ q = -1, (gpeak N s p).getD q.toNat 0 = if q = p then N else 1 := by
      intro eq
      rw [gpeak_get _ _ _ _ (by omega), show ((q.toNat : Nat) : Int) = q by omega]
      rcases hpy with e | e
      · exact absurd e eq
      · rw [if_pos e]
    by_cases ep : p = -1
    · subst ep
      simp only [val, if_true]
      by_cases eq : q = -1
      · simp only [eq, if_true]; omega
      · simp only [eq, if_false]
        rw [hq1 eq, if_neg eq]
        omega
    · have hpp : (gpeak N s p).getD p.toNat 0 = N := by
        rw [gpeak_get _ _ _ _ (by omega), show ((p.toNat : Nat) : Int) = p by omega]
        rcases hxs with e | e
        · exact absurd e ep
        · rw [if_pos e, if_pos rfl]
      simp only [val, ep, if_false]
      rw [hpp]
      by_cases eq : q = -1
      · simp only [eq, if_true]; omega
      · simp only [eq, if_false]
        rw [hq1 eq]
        by_cases eqp : q = p
        · rw [if_pos eqp]; omega
        · rw [if_neg eqp]; omega
  have hv0 : 1 ≤ val (gpeak N s p) (p, u) := by
    by_cases ep : p = -1
    · have hb1 := hb.2.1
      have := H _ (Nm.mem_getD (l := b) (k := 0) (by omega))
      have h0 := hb.2.2.1.mem (Nm.mem_getD (l := b) (k := 0) (by omega))
      have h1 : (b.getD 0 (0, 0)).2 ≤ val (gpeak N s p) (b.getD 0 (0, 0)) := val_ge (gpeak_env (by omega)).1 _
      omega
    · have hpp : (gpeak N s p).getD p.toNat 0 = N := by
        rw [gpeak_get _ _ _ _ (by omega), show ((p.toNat : Nat) : Int) = p by omega]
        rcases hxs with e | e
        · exact absurd e ep
        · rw [if_pos e, if_pos rfl]
      simp only [val, ep, if_false]
      rw [hpp]; omega
  have := value_le (env := gpeak N s p) (l := b) (v := val (gpeak N s p) (p, u) - 1) (by omega) H
  omega
/-- residuals are compared as their values are -/
theorem resid_sem {s : Int} {a b : List At} (ha : ROk s a) (hb : ROk s b) : (∀ k, k < a.length → ratomLe (a.getD k (0, 0)) b) ↔ ∀ env : List Int, env.length = 5 → EnvOf s env → value env a ≤ value env b := by
  constructor
  · exact fun h env _ he => rle_value he hb h
  · intro h k hk
    apply Classical.byContradiction
    intro hn
    have hx := Nm.mem_getD hk
    have hax := ha.2.2.1.mem hx
    have h1 := peak_gt (N := 2000) (M := 1000) hb (fun y hy => (hb.2.2.1.mem hy).2.2.2) (by omega) (by omega) hax.1 hax.2.1 hax.2.2.1 (ha.2.2.2.2.1 k hk) hn
    have h2 := h _ (gpeak_len 2000 s _) (gpeak_env (s := s) (p := (a.getD k (0, 0)).1) (by omega : (1 : Int) ≤ 2000))
    have h3 := value_mem (env := gpeak 2000 s (a.getD k (0, 0)).1) hx
    omega

/-- the value of a level, for whatever values of the parameters -/
def ev (env : List Int) (l : List (Int × Int)) : Int := (Lv.eval env l).getD 0
theorem ev_resid {s : Int} {env : List Int} (he : EnvOf s env) {l : List (Int × Int)} (h : Lv.levelOk l = true) : ev env l = value env (rs l s) := by
  unfold ev
  rw [eval_resid he h]
  rfl
/-- every env has a sign -/
theorem sign_of {env : List Int} (h5 : env.length = 5) (hp : Pos env) : ∃ S : Nat, S < 32 ∧ EnvOf (S : Int) env := by
  have hs := Sg.bits_sign h5
  have hb : 0 ≤ Sg.bits env ∧ Sg.bits env ≤ 31 := by simpa [Sg.isSign] using hs
  refine ⟨(Sg.bits env).toNat, by omega, ?_⟩
  rw [show (((Sg.bits env).toNat : Nat) : Int) = Sg.bits env by omega]
  have hh := fun k hk => Sg.bits_has h5 k hk
  refine ⟨hp, fun p h => ?_, fun p h0 h5' h => ?_⟩
  · have hbd := has_bd h
    have := hh p.toNat (by omega)
    rw [show ((p.toNat : Nat) : Int) = p by omega, h] at this
    have := of_decide_eq_true this.symm
    omega
  · have := hh p.toNat (by omega)
    rw [show ((p.toNat : Nat) : Int) = p by omega, h] at this
    have := of_decide_eq_false this.symm
    have := hp.get p.toNat
    omega
theorem isSign_nat {S : Nat} (h : S < 32) : Sg.isSign (S : Int) = true := by simp [Sg.isSign]; omega

open Classical in
/-- LevelLe's answer -/
noncomputable def leR (a b : List (Int × Int)) : Bool := decide (Lv.levelOk a = true ∧ Lv.levelOk b = true ∧ ∀ S : Nat, S < 32 → residLe (S : Int) (rs a S) (rs b S) = true)
theorem leR_iff (a b : List (Int × Int)) : leR a b = true ↔ Lv.levelOk a = true ∧ Lv.levelOk b = true ∧ ∀ S : Nat, S < 32 → residLe (S : Int) (rs a S) (rs b S) = true := by simp [leR]
/-- one level is at most another just where it is so for all values -/
theorem le_sem {a b : List (Int × Int)} (ha : Lv.levelOk a = true) (hb : Lv.levelOk b = true) : leR a b = true ↔ ∀ env : List Int, env.length = 5 → Pos env → ev env a ≤ ev env b := by
  rw [leR_iff]
  constructor
  · rintro ⟨_, _, h⟩ env h5 hp
    obtain ⟨S, hS, he⟩ := sign_of h5 hp
    rw [ev_resid he ha, ev_resid he hb]
    have h1 := (residLe_iff _ _ _).1 (h S hS)
    exact rle_value he h1.2.1 h1.2.2
  · intro h
    refine ⟨ha, hb, fun S hS => ?_⟩
    have hra := rs_rok ha (isSign_nat hS)
    have hrb := rs_rok hb (isSign_nat hS)
    refine (residLe_iff _ _ _).2 ⟨hra, hrb, (resid_sem hra hrb).2 fun env h5 he => ?_⟩
    have := h env h5 he.1
    rwa [ev_resid he ha, ev_resid he hb] at this
theorem le_refl {a : List (Int × Int)} (ha : Lv.levelOk a = true) : leR a a = true := (le_sem ha ha).2 fun _ _ _ => Int.le_refl _
theorem le_trans {a b c : List (Int × Int)} (h1 : leR a b = true) (h2 : leR b c = true) : leR a c = true := by
  have i1 := (leR_iff a b).1 h1
  have i2 := (leR_iff b c).1 h2
  exact (le_sem i1.1 i2.2.1).2 fun env h5 hp => Int.le_trans ((le_sem i1.1 i1.2.1).1 h1 env h5 hp) ((le_sem i2.1 i2.2.1).1 h2 env h5 hp)

end Go.Proofs.YtmbcjddahncocaaDoor.Dc

namespace Go.Proofs.YtmbcjddahncocaaDoor
open Go.RowKit

/-- a row of atoms of the call's own, wherever in its block it begins -/
def OwnO (w : World) (base : Nat) (A : Option Addr) (n c : Nat) (xs : List Value) : Prop :=
  xs.length = n * 2 ∧ ((A = none ∧ n = 0 ∧ c = 0) ∨ ∃ g o cur, A = some ⟨g, o, none⟩ ∧ base ≤ g ∧ Blk w g 68 cur ∧ n ≤ c ∧ o + c * 2 = cur.size ∧ ∀ j, j < n * 2 → cur[o + j]? = xs[j]?)
theorem OwnO.of {w : World} {base : Nat} {A : Option Addr} {n c : Nat} {xs : List Value} (h : w.ownsRow base 68 2 (.slice A n c) n xs) : OwnO w base A n c xs := by
  refine ⟨h.1, ?_⟩
  rcases h.2 with ⟨h0, h1⟩ | ⟨g, cap, cur, hv, hb, hgg, h1, h2, h3, h4⟩
  · injection h0 with e1 e2 e3
    exact .inl ⟨e1, h1, e3⟩
  · injection hv with e1 e2 e3
    subst e3
    refine .inr ⟨g, 0, cur, e1, hb, hgg, h1, by omega, fun j hj => ?_⟩
    rw [Nat.zero_add, ← h4, List.getElem?_take_of_lt hj, Array.getElem?_toList]
theorem OwnO.tail {w : World} {base g n c : Nat} {l : List (Int × Int)} (h : OwnA w base (some ⟨g, 0, none⟩) (n + 1) c l) : OwnO w base (some ⟨g, 2, none⟩) n (c - 1) (tokCells (l.drop 1)) := by
  have hl : l.length = n + 1 := by have := h.1; rw [tokCells_len] at this; omega
  rcases h.2 with ⟨h0, h1⟩ | ⟨g', cap, cur, hv, hb, hgg, h1, h2, h3, h4⟩
  · cases h0
  · injection hv with e1 e2 e3
    injection e1 with e1
    injection e1 with e1
    subst e1; subst e3
    refine ⟨by rw [tokCells_len, List.length_drop]; omega, .inr ⟨g, 2, cur, rfl, hb, hgg, by omega, by omega, fun j hj => ?_⟩⟩
    match l, hl with
    | a :: r, hl =>
      have ht : tokCells (a :: r) = .int .i64 a.1 :: .int .i64 a.2 :: tokCells r := rfl
      have h5 : (cur.toList.take ((n + 1) * 2))[2 + j]? = (tokCells (a :: r))[2 + j]? := by rw [h4]
      rw [List.getElem?_take_of_lt (by omega), Array.getElem?_toList, ht] at h5
      rw [h5, show 2 + j = j + 1 + 1 by omega, List.getElem?_cons_succ, List.getElem?_cons_succ, List.drop_one, List.tail_cons]
theorem OwnO.lt {w : World} {base : Nat} {A : Option Addr} {n c : Nat} {xs : List Value} (h : OwnO w base A n c xs) (k : Nat) (hk : (Value.slice A n c).ownBlock = some k) : base ≤ k ∧ k < w.heap.size := by
  rcases h.2 with ⟨rfl, _⟩ | ⟨g, o, cur, rfl, hb, hblk, _⟩
  · cases hk
  · have : g = k := by simpa [Value.ownBlock] using hk
    subst this
    exact ⟨hb, hblk.lt⟩
theorem at_below {w w' : World} {B base : Nat} {A : Option Addr} {n c : Nat} {xs : List Value} (h : OwnO w base A n c xs) (hb : Below B w w') (hB : ∀ k, (Value.slice A n c).ownBlock = some k → k < B) : OwnO w' base A n c xs := by
  refine ⟨h.1, ?_⟩
  rcases h.2 with hn | ⟨g, o, cur, rfl, hbg, hblk, rest⟩
  · exact .inl hn
  · exact .inr ⟨g, o, cur, rfl, hbg, (hb.block g (hB g rfl)).trans hblk, rest⟩
theorem at_below' {w w' : World} {base : Nat} {A : Option Addr} {n c : Nat} {xs : List Value} (h : OwnO w base A n c xs) (hb : Below w.heap.size w w') : OwnO w' base A n c xs :=
  at_below h hb (fun k hk => (h.lt k hk).2)
theorem at_base {w : World} {base base' : Nat} {A : Option Addr} {n c : Nat} {xs : List Value} (h : OwnO w base A n c xs) (hb : base' ≤ base) : OwnO w base' A n c xs := by
  refine ⟨h.1, ?_⟩
  rcases h.2 with hn | ⟨g, o, cur, rfl, hbg, rest⟩
  · exact .inl hn
  · exact .inr ⟨g, o, cur, rfl, by omega, rest⟩
theorem at_kept {w w' : World} {base : Nat} {A : Option Addr} {n c : Nat} {xs : List Value} {row : Option Nat} (h : OwnO w base A n c xs) (hg : w.grownBy w' row) (hne : ∀ k, (Value.slice A n c).ownBlock = some k → row ≠ some k) : OwnO w' base A n c xs := by
  refine ⟨h.1, ?_⟩
  rcases h.2 with hn | ⟨g, o, cur, rfl, hbg, hblk, rest⟩
  · exact .inl hn
  · exact .inr ⟨g, o, cur, rfl, hbg, (hg.block g hblk.lt (fun e => hne g rfl e.symm)).trans hblk, rest⟩
theorem at_reads {w : World} {base : Nat} {A : Option Addr} {n c : Nat} {l : List (Int × Int)} (h : OwnO w base A n c (tokCells l)) : TokR w w.heap.size A n l := by
  have hl : l.length = n := by have := h.1; rw [tokCells_len] at this; omega
  refine ⟨hl, fun hn => ?_⟩
  rcases h.2 with ⟨_, h0, _⟩ | ⟨g, o, cur, rfl, hb, hblk, h1, h2, h3⟩
  · omega
  · refine ⟨g, o, rfl, hblk.lt, fun k hk => ?_⟩
    have ht := tokCells_at l k (by omega)
    have h5 := (hblk.cell (o + k * 2)).trans ((h3 (k * 2) (by omega)).trans ht.1)
    have h6 := (hblk.cell (o + k * 2 + 1)).trans ((h3 (k * 2 + 1) (by omega)).trans ht.2)
    exact ⟨h5, h6⟩

end Go.Proofs.YtmbcjddahncocaaDoor
