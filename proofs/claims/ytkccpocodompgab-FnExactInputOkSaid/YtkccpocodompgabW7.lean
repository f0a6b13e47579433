/-
  impl.InputOk (7): the program's own answer.
-/
import Derived.Test.YtkccpocodompgabW12
namespace Go.Proofs.Ytkccpocodompgab
open Go.RowKit

set_option maxHeartbeats 1000000 in
theorem implOk_any (a1 a2 : Option Addr) (n1 c1 n2 c2 : Nat) (S1 S2 : Nat → ByteArray) (t d c : Int) (w : World) (hn1 : n1 ≤ maxLen) (hn2 : n2 ≤ maxLen) (hS1 : Strs w a1 n1 S1) (hS2 : Strs w a2 n2 S2) :
    Calls Try.prog 7 #[.agg #[.slice a1 n1 c1, .slice a2 n2 c2, .int .i64 t, .int .i64 d, .int .i64 c]] w fun e w' =>
      e = .returned (.bool (inB n1 S1 n2 S2 t d c)) ∧ Below w.heap.size w w' := by
  have hb : ∀ o : Obj, Below w.heap.size w (w.alloc o) := fun o => (Below.refl _ _).alloc (Nat.le_refl _) o
  have T1 : ∀ o : Obj, Strs (w.alloc o) a1 n1 S1 := fun o => hS1.below (hb o) (Nat.le_refl _)
  have T2 : ∀ o : Obj, Strs (w.alloc o) a2 n2 S2 := fun o => hS2.below (hb o) (Nat.le_refl _)
  clear hS1 hS2
  cases hl1 : listB n1 S1 with
  | false =>
    go_enter Try.func7, Try.ntmps7
    go_wp2_with fail
    refine (inputsOk_any _ _ _ _ _ hn1 (T1 _)).mono ?_
    rintro e w' ⟨rfl, rfl⟩
    go_wp2_with fail
    go_ret
    exact ⟨ret_bool (inB_fst hl1).symm, hb _⟩
  | true =>
    cases hl2 : listB n2 S2 with
    | false =>
      go_enter Try.func7, Try.ntmps7
      go_wp2_with fail
      refine (inputsOk_any _ _ _ _ _ hn1 (T1 _)).mono ?_
      rintro e w' ⟨rfl, rfl⟩
      go_wp2_with fail
      refine (inputsOk_any _ _ _ _ _ hn2 (T2 _)).mono ?_
      rintro e w' ⟨rfl, rfl⟩
      go_wp2_with fail
      go_ret
      exact ⟨ret_bool (inB_snd hl2).symm, hb _⟩
    | true =>
      go_enter Try.func7, Try.ntmps7
      go_wp2_with fail
      refine (inputsOk_any _ _ _ _ _ hn1 (T1 _)).mono ?_
      rintro e w' ⟨rfl, rfl⟩
      go_wp2_with fail
      refine (inputsOk_any _ _ _ _ _ hn2 (T2 _)).mono ?_
      rintro e w' ⟨rfl, rfl⟩
      go_wp2_with fail
      all_goals
        go_ret
        refine ⟨ret_bool ?_, hb _⟩
        rw [inB_of hl1 hl2]
        first
        | exact nums_way (by omega) (by omega) (by omega) (by omega) (by omega)
        | exact (numsB_false (by omega)).symm
end Go.Proofs.Ytkccpocodompgab
