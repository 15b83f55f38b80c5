/- The signs, produced in order by a function that is ranged over: its contract, for every loop body. -/
import Derived.RangeFuncNested
import Derived.RangeFuncBound
import Derived.RangeFuncCalls
import Derived.RangeFuncLeaves
import Derived.Shelf.Abstract
import Derived.Shelf.RegionOpen
import Derived.WalkKit
import Derived.OwnWalkIn
import Derived.TacticsInMore
import Derived.LoopNIn
import Derived.LoopIn
import Derived.Test.YtgebjnoicgmdoaaGreatDoorBase

namespace Go.Proofs.YtgebjnoicgmdoaaGreatDoor
open Go.RowKit Go.Shelf
attribute [local go_sem] Oper.semAt_some

set_option maxRecDepth 100000 in
set_option maxHeartbeats 2000000 in
theorem signs_stops (F : Fence) (n : Nat) (hf : F.fn 91) (hro : F.round = none) (hn : 1 ≤ n) (w : World) :
    SeqStopsK F n Tryz.prog 91 #[] (fun x : Fin 32 => #[Value.int .i64 ((x.val : Nat) : Int)]) (fun _ _ => True) (fun xs => xs.map Fin.val = List.range 32) (fun pre => ∃ k, k ≤ 32 ∧ pre.map Fin.val = List.range k) 32 w := fun l J Jx W _ _ _ hY h0 => by
  refine callsIn_of_wp Tryz.func91 rfl hf ?_ hro
  simp only [Tryz.ntmps91, List.size_toArray, List.length_cons, List.length_nil, Nat.reduceAdd, Nat.reduceSub, Array.replicate_succ, Array.replicate_zero, List.push_toArray, List.append_toArray, List.nil_append, List.cons_append]
  gi_wp2
  gi_loopw [2] (fun p wr => ∃ (S : Nat) (pre : List (Fin 32)), S ≤ 32 ∧ p = .int .i64 S ∧ pre.map Fin.val = List.range S ∧ J pre wr) (fun p _ => 32 - (intOf p).toNat)
  case atStart => exact ⟨0, [], by omega, rfl, rfl, h0⟩
  case round =>
    obtain ⟨S, pre, hS, rfl, hp, hJ⟩ := hrel
    have hlen : pre.length = S := by have := congrArg List.length hp; simpa using this
    by_cases hS2 : S < 32
    · have hSi : (S : Int) ≤ 31 := by omega
      obtain ⟨fn, tmps, assign, body, hy, hR⟩ := hY pre ⟨S, hS2⟩ wr hJ (by omega)
      dsimp only at hy
      gi_wp2
      refine hR.mono ?_
      rintro e W3 (⟨rfl, hJ3, _⟩ | ⟨rfl, hJx3⟩)
      · gi_wp2
        go_roundw
        case rel => exact ⟨S + 1, pre ++ [⟨S, hS2⟩], by omega, by go_num, by simp [hp, List.range_succ], hJ3⟩
        case measure => simp [intOf]; omega
      · gi_wp2
        refine bodyPost_ret (results_none rfl _ _ _) rfl ?_
        exact ⟨⟨_, rfl⟩, .inr ⟨pre ++ [⟨S, hS2⟩], ⟨S + 1, by omega, by simp [hp, List.range_succ]⟩, hJx3⟩⟩
    · have hS3 : ¬ (S : Int) ≤ 31 := by omega
      obtain rfl : S = 32 := by omega
      gi_wp2
      go_end0
      exact ⟨⟨_, rfl⟩, .inl ⟨pre, hp, hJ⟩⟩
end Go.Proofs.YtgebjnoicgmdoaaGreatDoor
