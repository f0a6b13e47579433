/-
  laws.szInput (4): what it leaves says that both lists are short, or it is below 0.
-/
import Derived.Test.YtkccpocodompgabW9
namespace Go.Proofs.Ytkccpocodompgab
open Go.RowKit

set_option maxHeartbeats 400000 in
theorem szInput_any (a1 a2 : Option Addr) (n1 c1 n2 c2 : Nat) (S1 S2 : Nat → ByteArray) (t d c left : Int) (w : World) (hn1 : n1 ≤ maxLen) (hn2 : n2 ≤ maxLen) (hS1 : Strs w a1 n1 S1) (hS2 : Strs w a2 n2 S2) (h0 : 0 ≤ left) (h1 : left ≤ 1048576) :
    Calls Try.prog 4 #[.agg #[.slice a1 n1 c1, .slice a2 n2 c2, .int .i64 t, .int .i64 d, .int .i64 c], .int .i64 left] w fun e w' =>
      ∃ r : Int, e = .returned (.int .i64 r) ∧ (r < 0 ∨ (n1 ≤ 1048576 ∧ n2 ≤ 1048576)) ∧ Below w.heap.size w w' := by
  have hb : ∀ o : Obj, Below w.heap.size w (w.alloc o) := fun o => (Below.refl _ _).alloc (Nat.le_refl _) o
  have T1 : ∀ o : Obj, Strs (w.alloc o) a1 n1 S1 := fun o => hS1.below (hb o) (Nat.le_refl _)
  have T2 : ∀ o : Obj, Strs (w.alloc o) a2 n2 S2 := fun o => hS2.below (hb o) (Nat.le_refl _)
  clear hS1 hS2
  go_enter Try.func4, Try.ntmps4
  go_wp2_with fail
  refine (szStringS_any _ _ _ _ _ _ hn1 (T1 _) h0 h1).mono ?_
  rintro e w' ⟨r1, rfl, hr1, rfl⟩
  by_cases hneg : r1 < 0
  · go_wp2_with fail
    go_ret
    exact ⟨-1, rfl, Or.inl (by omega), hb _⟩
  · have hr0 : 0 ≤ r1 := by omega
    have hr2 : r1 ≤ 1048576 := by omega
    have hk1 : n1 ≤ 1048576 := by omega
    go_wp2_with fail
    refine (szStringS_any _ _ _ _ _ _ hn2 (T2 _) hr0 hr2).mono ?_
    rintro e w' ⟨r2, rfl, hr3, rfl⟩
    by_cases hneg2 : r2 < 0
    · go_wp2_with fail
      go_ret
      exact ⟨-1, rfl, Or.inl (by omega), hb _⟩
    · have hk2 : n2 ≤ 1048576 := by omega
      go_wp2_with fail
      go_ret
      exact ⟨r2, rfl, Or.inr (And.intro hk1 hk2), hb _⟩
end Go.Proofs.Ytkccpocodompgab
