/- sync.Once's Do over the table of residuals. -/
import Derived.Test.YtghoofgfimeedaaDoorOnce2
import Derived.Test.YtghoofgfimeedaaDoorCur2

namespace Go.Proofs.YtghoofgfimeedaaDoor
open Go.RowKit

theorem at_kpT {a b : World} {base bc : Nat} {A : Option Addr} {n c : Nat} {xs : List Value} (h : OwnO a base A n c xs) (hk : Kp bc a b) (hb : bc < base) : OwnO b base A n c xs :=
  at_kept h hk fun k hk' e => by
    have := (h.lt k hk').1
    injection e with e
    omega
theorem Blk.of_drew {w : World} {g : Nat} {t : TypeId} {cs : Array Value} (h : Blk w g t cs) : Blk w.drew g t cs := h
/-- the cells of the table, once the residual is laid -/
def laidCs (cs : Array Value) (off j : Nat) (v : Value) : Array Value :=
  (((cs.setIfInBounds (off + 1) (.int .i32 1)).setIfInBounds j v).setIfInBounds off (.int .u32 1)).setIfInBounds (off + 1) (.int .i32 0)
/-- what Do leaves the first time -/
def DoneOut (w : World) (b off j : Nat) (cs : Array Value) (l : List (Int × Int)) (e : Ending) (w' : World) : Prop :=
  e = .returned (.tuple #[]) ∧ ∃ A5 c5, Blk w' b 134 (laidCs cs off j (.slice A5 l.length c5)) ∧ OwnO w' w.heap.size A5 l.length c5 (tokCells l) ∧ Kp b w w'

set_option maxRecDepth 100000 in
set_option maxHeartbeats 6400000 in
theorem slow_any (w : World) (B b pt ps S off : Nat) (A : Option Addr) (n c : Nat) (l : List (Int × Int)) (T : TypeId) (pv : Value) (cs : Array Value) (h0 : 0 < B) (hB : B ≤ w.heap.size) (hBb : B ≤ b)
    (hl : TokR w B A n l) (hok : Lv.levelOk l = true) (hS : S < 32) (hoff : 1 ≤ off ∧ off + 1 < 97) (hE : ErrAt w T pv) (hblk : Blk w b 134 cs) (hcs : cs.size = 129) (ht : cs[0]? = some (.slice A n c))
    (hp : w.cell? ⟨pt, 0, none⟩ = some (.pointer (some ⟨b, 0, none⟩))) (hs : w.cell? ⟨ps, 0, none⟩ = some (.int .i64 S)) (hpb : pt ≠ b) (hsb : ps ≠ b)
    (hd : cs[off]? = some (.int .u32 0)) (hm : cs[off + 1]? = some (.int .i32 0)) :
    Calls Tryd.prog 140 #[.pointer (some ⟨b, off, none⟩), .func (.func 132) #[] #[.pointer (some ⟨pt, 0, none⟩), .pointer (some ⟨ps, 0, none⟩)]] w (DoneOut w b off (97 + S) cs (Nm.rnorm (Nm.wl S l))) := by
  have hbt := hblk.lt
  have m0 : w.cell? ⟨b, off + 1, none⟩ = some (.int .i32 0) := (hblk.cell _).trans hm
  have hk1 : Kp b w (w.setCell ⟨b, off + 1, none⟩ (.int .i32 1)) := Kp.put w b (off + 1) _
  have hb1 := hblk.put (off + 1) (.int .i32 1)
  have hd1 : (w.setCell ⟨b, off + 1, none⟩ (.int .i32 1)).cell? ⟨b, off, none⟩ = some (.int .u32 0) := (hb1.cell off).trans (by rw [Array.getElem?_setIfInBounds_ne (by omega)]; exact hd)
  have hp1 : (w.setCell ⟨b, off + 1, none⟩ (.int .i32 1)).cell? ⟨pt, 0, none⟩ = some (.pointer (some ⟨b, 0, none⟩)) := (World.cell?_setCell_other _ ⟨b, off + 1, none⟩ ⟨pt, 0, none⟩ _ (fun h => hpb (congrArg Addr.block h).symm)).trans hp
  have hs1 : (w.setCell ⟨b, off + 1, none⟩ (.int .i32 1)).cell? ⟨ps, 0, none⟩ = some (.int .i64 S) := (World.cell?_setCell_other _ ⟨b, off + 1, none⟩ ⟨ps, 0, none⟩ _ (fun h => hsb (congrArg Addr.block h).symm)).trans hs
  have hbel1 : Below B w (w.setCell ⟨b, off + 1, none⟩ (.int .i32 1)) := (Below.refl B w).setCell (p := ⟨b, off + 1, none⟩) hBb _
  have HFILL := Lib.hid (fill_any (w.setCell ⟨b, off + 1, none⟩ (.int .i32 1)) B b pt ps S A n c l T pv _ h0 (Nat.le_trans hB hbel1.size) (hl.below hbel1) hok hS (hE.below hbel1 h0) hb1 (by simp [hcs]) (by rw [Array.getElem?_setIfInBounds_ne (by omega)]; exact ht) hp1 hs1)
  have HZ := Lib.hid (hblk.thawed (off + 1))
  have HDC := Lib.hid hd
  have HB1 := Lib.hid hb1
  have HK1 := Lib.hid hk1
  have HM0 := Lib.hid m0
  have HD1 := Lib.hid hd1
  have hw1 : (w.setCell ⟨b, off + 1, none⟩ (.int .i32 1)).heap.size = w.heap.size := by simp
  generalize hW1 : w.setCell ⟨b, off + 1, none⟩ (.int .i32 1) = w1 at HFILL HB1 HK1 HD1 hw1
  have HW1 := Lib.hid hW1
  clear hW1 hblk hl hE hp hs hp1 hs1 hbel1 hb1 hk1 m0 hd1 hd hm
  go_enter_defers Tryd.func140, Tryd.ntmps140
  go_wp2_with fail
  refine (lock_free ⟨b, off + 1, none⟩ w HM0.out HZ.out).mono ?_
  rintro e w' ⟨rfl, hw'⟩
  rw [HW1.out] at hw'
  subst hw'
  go_wp2_with fail
  refine (load_word ⟨b, off, none⟩ 0 _ HD1.out).mono ?_
  rintro e w' ⟨rfl, rfl⟩
  go_wp2_with fail
  refine HFILL.out.mono ?_
  rintro e w2 ⟨rfl, A5, c5, w5, rfl, ho5, hb5⟩
  have hk5 := HB1.out.below hb5 (by omega)
  have hk6 := hk5.put (97 + S) (.slice A5 (Nm.rnorm (Nm.wl S l)).length c5)
  have kp5 := HK1.out.trans (Kp.of_below (bc := b) hb5)
  have kp6 := kp5.trans (Kp.put w5 b (97 + S) (.slice A5 (Nm.rnorm (Nm.wl S l)).length c5))
  have ho6 := at_kpT ho5 (Kp.put w5 b (97 + S) (.slice A5 (Nm.rnorm (Nm.wl S l)).length c5)) (by omega)
  have kd := (Kp.refl b (w5.setCell ⟨b, 97 + S, none⟩ (.slice A5 (Nm.rnorm (Nm.wl S l)).length c5))).drew
  have hk7 := (Blk.of_drew hk6).put off (.int .u32 1)
  have kp7 := kp6.trans (kd.trans (Kp.put _ b off (.int .u32 1)))
  have ho7 := at_kpT ho6 (kd.trans (Kp.put _ b off (.int .u32 1))) (by omega)
  have hk8 := hk7.put (off + 1) (.int .i32 0)
  have kp8 := kp7.trans (Kp.put _ b (off + 1) (.int .i32 0))
  have ho8 := at_kpT ho7 (Kp.put _ b (off + 1) (.int .i32 0)) (by omega)
  rw [hw1] at ho8
  have HFIN : Hid (DoneOut w b off (97 + S) cs (Nm.rnorm (Nm.wl S l)) (.returned (.tuple #[])) ((((w5.setCell ⟨b, 97 + S, none⟩ (.slice A5 (Nm.rnorm (Nm.wl S l)).length c5)).drew.setCell ⟨b, off, none⟩ (.int .u32 1))).setCell ⟨b, off + 1, none⟩ (.int .i32 0))) := ⟨rfl, A5, c5, hk8, ho8, kp8⟩
  have c1 : (w5.setCell ⟨b, 97 + S, none⟩ (.slice A5 (Nm.rnorm (Nm.wl S l)).length c5)).cell? ⟨b, off, none⟩ = some (.int .u32 0) := (hk6.cell off).trans (by rw [Array.getElem?_setIfInBounds_ne (by omega), Array.getElem?_setIfInBounds_ne (by omega)]; exact HDC.out)
  have c2 := hk6.thawed off
  have c3 : ((w5.setCell ⟨b, 97 + S, none⟩ (.slice A5 (Nm.rnorm (Nm.wl S l)).length c5)).drew.setCell ⟨b, off, none⟩ (.int .u32 1)).cell? ⟨b, off + 1, none⟩ = some (.int .i32 1) := (hk7.cell (off + 1)).trans (by rw [Array.getElem?_setIfInBounds_ne (by omega), Array.getElem?_setIfInBounds_ne (by omega), Array.getElem?_setIfInBounds_self_of_lt (by omega)])
  have c4 := hk7.thawed (off + 1)
  have HC1 := Lib.hid c1
  have HC2 := Lib.hid c2
  have HC3 := Lib.hid c3
  have HC4 := Lib.hid c4
  clear c1 c2 c3 c4 hk5 hk6 hk7 hk8 kp5 kp6 kp7 kp8 ho5 ho6 ho7 ho8 kd hb5
  go_wp2
  refine leaves_cons (f := 146) (args := #[.pointer (some ⟨b, off, none⟩), .bool true]) (by simp) (by simp [go_sem]) ?_
  refine (store_deferred ⟨b, off, none⟩ (.int .u32 0) .returning _ HC1.out HC2.out).mono ?_
  rintro e u' w'' ⟨rfl, rfl, rfl⟩
  refine leaves_cons (f := 145) (args := #[.pointer (some ⟨b, off + 1, none⟩)]) (by simp [settle]) (by simp [go_sem]) ?_
  refine (unlock_deferred ⟨b, off + 1, none⟩ _ _ HC3.out HC4.out).mono ?_
  rintro e u' w'' ⟨rfl, rfl, rfl⟩
  have hfin := HFIN.out
  simp [Leaves, settle, results, Tryd.results140]
  exact hfin

set_option maxRecDepth 100000 in
set_option maxHeartbeats 3200000 in
theorem do_first (w : World) (B b pt ps S off : Nat) (A : Option Addr) (n c : Nat) (l : List (Int × Int)) (T : TypeId) (pv : Value) (cs : Array Value) (h0 : 0 < B) (hB : B ≤ w.heap.size) (hBb : B ≤ b)
    (hl : TokR w B A n l) (hok : Lv.levelOk l = true) (hS : S < 32) (hoff : 1 ≤ off ∧ off + 1 < 97) (hE : ErrAt w T pv) (hblk : Blk w b 134 cs) (hcs : cs.size = 129) (ht : cs[0]? = some (.slice A n c))
    (hp : w.cell? ⟨pt, 0, none⟩ = some (.pointer (some ⟨b, 0, none⟩))) (hs : w.cell? ⟨ps, 0, none⟩ = some (.int .i64 S)) (hpb : pt ≠ b) (hsb : ps ≠ b)
    (hd : cs[off]? = some (.int .u32 0)) (hm : cs[off + 1]? = some (.int .i32 0)) :
    Calls Tryd.prog 131 #[.pointer (some ⟨b, off, none⟩), .func (.func 132) #[] #[.pointer (some ⟨pt, 0, none⟩), .pointer (some ⟨ps, 0, none⟩)]] w (DoneOut w b off (97 + S) cs (Nm.rnorm (Nm.wl S l))) := by
  have HS := Lib.hid (slow_any w B b pt ps S off A n c l T pv cs h0 hB hBb hl hok hS hoff hE hblk hcs ht hp hs hpb hsb hd hm)
  have HD := Lib.hid ((hblk.cell off).trans hd)
  clear hl hE hblk hp hs hd hm
  go_enter Tryd.func131, Tryd.ntmps131
  go_wp2_with fail
  refine (load_word ⟨b, off, none⟩ 0 _ HD.out).mono ?_
  rintro e w' ⟨rfl, rfl⟩
  go_wp2_with fail
  refine HS.out.mono ?_
  rintro e w1 ⟨rfl, h⟩
  have H := Lib.hid h
  clear h
  go_wp2
  go_end0
  exact ⟨rfl, H.out⟩

set_option maxRecDepth 100000 in
theorem do_done (w : World) (a : Addr) (fv : Value) (hd : w.cell? a = some (.int .u32 1)) :
    Calls Tryd.prog 131 #[.pointer (some a), fv] w fun e w' => e = .returned (.tuple #[]) ∧ w' = w := by
  go_enter Tryd.func131, Tryd.ntmps131
  go_wp2_with fail
  refine (load_word a 1 _ hd).mono ?_
  rintro e w' ⟨rfl, rfl⟩
  go_wp2
  go_end0
  exact ⟨rfl, rfl⟩
end Go.Proofs.YtghoofgfimeedaaDoor
