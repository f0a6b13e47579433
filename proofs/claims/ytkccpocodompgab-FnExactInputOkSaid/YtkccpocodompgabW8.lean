/-
  laws.eqInput (8): two inputs of the same strings and numbers.
-/
import Derived.Test.YtkccpocodompgabW13
namespace Go.Proofs.Ytkccpocodompgab
open Go.RowKit

set_option maxHeartbeats 400000 in
theorem eqInput_any (a1 a2 b1 b2 : Option Addr) (n1 c1 n2 c2 e1 e2 : Nat) (S1 S2 : Nat → ByteArray) (t d c : Int) (w : World) (hn1 : n1 ≤ maxLen) (hn2 : n2 ≤ maxLen)
    (hS1 : Strs w a1 n1 S1) (hS2 : Strs w a2 n2 S2) (hT1 : Strs w b1 n1 S1) (hT2 : Strs w b2 n2 S2) :
    Calls Try.prog 8 #[.agg #[.slice a1 n1 c1, .slice a2 n2 c2, .int .i64 t, .int .i64 d, .int .i64 c], .agg #[.slice b1 n1 e1, .slice b2 n2 e2, .int .i64 t, .int .i64 d, .int .i64 c]] w fun e w' =>
      e = .returned (.bool true) ∧ Below w.heap.size w w' := by
  have hb : ∀ (o o' : Obj) (q : Nat), Below w.heap.size w (((w.alloc o).alloc o').drewN q) := fun o o' q =>
    (((Below.refl _ _).alloc (Nat.le_refl _) o).alloc (by simp) o').trans ⟨rfl, rfl, rfl, Nat.le_refl _, fun _ _ => rfl⟩
  have hb0 : ∀ (o o' : Obj), Below w.heap.size w ((w.alloc o).alloc o') := fun o o' => ((Below.refl _ _).alloc (Nat.le_refl _) o).alloc (by simp) o'
  have A1 : ∀ (o o' : Obj), Strs ((w.alloc o).alloc o') a1 n1 S1 := fun o o' => hS1.below (hb0 o o') (Nat.le_refl _)
  have A2 : ∀ (o o' : Obj) (q : Nat), Strs (((w.alloc o).alloc o').drewN q) a2 n2 S2 := fun o o' q => hS2.below (hb o o' q) (Nat.le_refl _)
  have B1 : ∀ (o o' : Obj), Strs ((w.alloc o).alloc o') b1 n1 S1 := fun o o' => hT1.below (hb0 o o') (Nat.le_refl _)
  have B2 : ∀ (o o' : Obj) (q : Nat), Strs (((w.alloc o).alloc o').drewN q) b2 n2 S2 := fun o o' q => hT2.below (hb o o' q) (Nat.le_refl _)
  clear hS1 hS2 hT1 hT2
  go_enter Try.func8, Try.ntmps8
  go_wp2_with fail
  refine (eqStringS_any _ _ _ _ _ _ _ hn1 (A1 _ _) (B1 _ _)).mono ?_
  rintro e w' ⟨rfl, q, rfl⟩
  go_wp2_with fail
  refine (eqStringS_any _ _ _ _ _ _ _ hn2 (A2 _ _ _) (B2 _ _ _)).mono ?_
  rintro e w' ⟨rfl, q', rfl⟩
  go_wp2_with fail
  go_ret
  exact ⟨rfl, (hb _ _ q).trans ⟨rfl, rfl, rfl, Nat.le_refl _, fun _ _ => rfl⟩⟩
end Go.Proofs.Ytkccpocodompgab
