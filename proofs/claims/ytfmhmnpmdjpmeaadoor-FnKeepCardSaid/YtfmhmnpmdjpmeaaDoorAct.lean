/- The machine's loop over the tokens, and its run: the plain function on lists, or the panic. -/
import Derived.Test.YtfmhmnpmdjpmeaaDoorActs

namespace Go.Proofs.YtfmhmnpmdjpmeaaDoor
open Go.RowKit

theorem run_store_fn (P : Program) (w : World) (a : Addr) (m : Mode) (fn : Fn) (first cap : Array Value) : (store a (.func fn first cap) m).run P w = stored P w a (.func fn first cap) m := run_store P w a _ m rfl
attribute [local go_sem] run_store_fn

/-- the table of method values -/
def table (bm : Nat) : Array Value :=
  #[.func (.func 100) #[.pointer (some ⟨bm, 0, none⟩)] #[], .func (.func 101) #[.pointer (some ⟨bm, 0, none⟩)] #[],
    .func (.func 102) #[.pointer (some ⟨bm, 0, none⟩)] #[], .func (.func 103) #[.pointer (some ⟨bm, 0, none⟩)] #[],
    .func (.func 104) #[.pointer (some ⟨bm, 0, none⟩)] #[]]

theorem Mach.alloc {w : World} {B bm : Nat} {env st : List Int} (h : Mach w B bm env st) (o : Obj) : Mach (w.alloc o) B bm env st := by
  obtain ⟨hB, he, A, c, hblk, hown⟩ := h
  exact ⟨hB, he, A, c, hblk.alloc o, hown.alloc o⟩
theorem Mach.size {w : World} {B bm : Nat} {env st : List Int} (h : Mach w B bm env st) : B ≤ w.heap.size := by
  obtain ⟨hB, he, A, c, hblk, hown⟩ := h
  have := hblk.lt
  omega

end Go.Proofs.YtfmhmnpmdjpmeaaDoor
