/-
  spec.l44InputOk (10): the model's answer.
-/
import Derived.Test.YtkccpocodompgabRows
import Derived.Test.YtkccpocodompgabBase
import Derived.WalkSpells
import Derived.WalkLawsBesides
namespace Go.Proofs.Ytkccpocodompgab
open Go.RowKit

set_option maxHeartbeats 400000 in
theorem specOk_many1 (a1 a2 : Option Addr) (n1 c1 n2 c2 : Nat) (S1 S2 : Nat → ByteArray) (t d c : Int) (w : World) (hn1 : n1 ≤ maxLen) (h : 200 < n1) :
    Calls Try.prog 10 #[.agg #[.slice a1 n1 c1, .slice a2 n2 c2, .int .i64 t, .int .i64 d, .int .i64 c]] w fun e w' =>
      e = .returned (.bool (inB n1 S1 n2 S2 t d c)) ∧ Below w.heap.size w w' := by
  have hb : ∀ o : Obj, Below w.heap.size w (w.alloc o) := fun o => (Below.refl _ _).alloc (Nat.le_refl _) o
  unfold maxLen at hn1
  go_enter Try.func10, Try.ntmps10
  go_wp2
  go_ret
  exact ⟨ret_bool (inB_fst (listB_many h)).symm, hb _⟩

set_option maxHeartbeats 400000 in
theorem specOk_many2 (a1 a2 : Option Addr) (n1 c1 n2 c2 : Nat) (S1 S2 : Nat → ByteArray) (t d c : Int) (w : World) (hn2 : n2 ≤ maxLen) (h1 : n1 ≤ 200) (h : 200 < n2) :
    Calls Try.prog 10 #[.agg #[.slice a1 n1 c1, .slice a2 n2 c2, .int .i64 t, .int .i64 d, .int .i64 c]] w fun e w' =>
      e = .returned (.bool (inB n1 S1 n2 S2 t d c)) ∧ Below w.heap.size w w' := by
  have hb : ∀ o : Obj, Below w.heap.size w (w.alloc o) := fun o => (Below.refl _ _).alloc (Nat.le_refl _) o
  unfold maxLen at hn2
  go_enter Try.func10, Try.ntmps10
  go_wp2
  go_ret
  exact ⟨ret_bool (inB_snd (listB_many h)).symm, hb _⟩

set_option maxHeartbeats 1000000 in
theorem specOk_few (a1 a2 : Option Addr) (n1 c1 n2 c2 : Nat) (S1 S2 : Nat → ByteArray) (t d c : Int) (w : World) (h1 : n1 ≤ 200) (h2 : n2 ≤ 200) (hS1 : Strs w a1 n1 S1) (hS2 : Strs w a2 n2 S2) :
    Calls Try.prog 10 #[.agg #[.slice a1 n1 c1, .slice a2 n2 c2, .int .i64 t, .int .i64 d, .int .i64 c]] w fun e w' =>
      e = .returned (.bool (inB n1 S1 n2 S2 t d c)) ∧ Below w.heap.size w w' := by
  have hb : ∀ o : Obj, Below w.heap.size w (w.alloc o) := fun o => (Below.refl _ _).alloc (Nat.le_refl _) o
  have T1 : ∀ o : Obj, Strs (w.alloc o) a1 n1 S1 := fun o => hS1.below (hb o) (Nat.le_refl _)
  have T2 : ∀ o : Obj, Strs (w.alloc o) a2 n2 S2 := fun o => hS2.below (hb o) (Nat.le_refl _)
  clear hS1 hS2
  go_enter Try.func10, Try.ntmps10
  go_wp2
  go_loop [20] (fun i => ∃ k : Nat, k ≤ n1 ∧ i = .int .i64 k ∧ ∀ j, j < k → (S1 j).size ≤ 4000) (fun i => n1 - (intOf i).toNat)
  case atStart => exact ⟨0, Nat.zero_le _, rfl, fun j hj => absurd hj (Nat.not_lt_zero j)⟩
  case round =>
    obtain ⟨k, hk, rfl, hall0⟩ := hrel
    have hall : Hid (∀ j, j < k → (S1 j).size ≤ 4000) := hall0
    clear hall0
    by_cases hlt : k < n1
    · obtain ⟨b, off, rfl, hc, hs⟩ := T1 (.cells #[.slice a1 n1 c1, .slice a2 n2 c2, .int .i64 t, .int .i64 d, .int .i64 c] 27) k hlt
      unfold maxLen at hs
      obtain ⟨s, hsS⟩ : ∃ s, s = S1 k := ⟨_, rfl⟩
      rw [← hsS] at hc hs
      have HS : Hid (s = S1 k) := hsS
      clear hsS
      by_cases hbig : 4000 < s.size
      · go_wp2
        go_ret
        exact ⟨ret_bool (inB_fst (listB_long hlt (by rw [← HS.out]; exact hbig))).symm, hb _⟩
      · go_wp2
        go_round
        case rel => exact ⟨k + 1, by omega, by go_num, fun j hj => if e : j = k then by rw [e, ← HS.out]; omega else hall.out j (by omega)⟩
        case measure => simp [intOf]; omega
    · have hl1 : Hid (listB n1 S1 = true) := listB_good h1 (fun i hi => hall.out i (by omega))
      clear hall
      go_wp2
      go_loop [31] (fun i => ∃ k : Nat, k ≤ n2 ∧ i = .int .i64 k ∧ ∀ j, j < k → (S2 j).size ≤ 4000) (fun i => n2 - (intOf i).toNat)
      case atStart => exact ⟨0, Nat.zero_le _, rfl, fun j hj => absurd hj (Nat.not_lt_zero j)⟩
      case round =>
        obtain ⟨k2, hk2, rfl, hall0⟩ := hrel
        have hall : Hid (∀ j, j < k2 → (S2 j).size ≤ 4000) := hall0
        clear hall0
        by_cases hlt2 : k2 < n2
        · obtain ⟨b, off, rfl, hc, hs⟩ := T2 (.cells #[.slice a1 n1 c1, .slice a2 n2 c2, .int .i64 t, .int .i64 d, .int .i64 c] 27) k2 hlt2
          unfold maxLen at hs
          obtain ⟨s, hsS⟩ : ∃ s, s = S2 k2 := ⟨_, rfl⟩
          rw [← hsS] at hc hs
          have HS : Hid (s = S2 k2) := hsS
          clear hsS
          by_cases hbig : 4000 < s.size
          · go_wp2
            go_ret
            exact ⟨ret_bool (inB_snd (listB_long hlt2 (by rw [← HS.out]; exact hbig))).symm, hb _⟩
          · go_wp2
            go_round
            case rel => exact ⟨k2 + 1, by omega, by go_num, fun j hj => if e : j = k2 then by rw [e, ← HS.out]; omega else hall.out j (by omega)⟩
            case measure => simp [intOf]; omega
        · have hl2 : Hid (listB n2 S2 = true) := listB_good h2 (fun i hi => hall.out i (by omega))
          clear hall
          go_wp2
          all_goals
            go_ret
            refine ⟨ret_bool ?_, hb _⟩
            rw [inB_of hl1.out hl2.out]
            first
            | exact nums_way (by omega) (by omega) (by omega) (by omega) (by omega)
            | exact (numsB_false (by omega)).symm

theorem specOk_any (a1 a2 : Option Addr) (n1 c1 n2 c2 : Nat) (S1 S2 : Nat → ByteArray) (t d c : Int) (w : World) (hn1 : n1 ≤ maxLen) (hn2 : n2 ≤ maxLen) (hS1 : Strs w a1 n1 S1) (hS2 : Strs w a2 n2 S2) :
    Calls Try.prog 10 #[.agg #[.slice a1 n1 c1, .slice a2 n2 c2, .int .i64 t, .int .i64 d, .int .i64 c]] w fun e w' =>
      e = .returned (.bool (inB n1 S1 n2 S2 t d c)) ∧ Below w.heap.size w w' := by
  by_cases h1 : 200 < n1
  · exact specOk_many1 a1 a2 n1 c1 n2 c2 S1 S2 t d c w hn1 h1
  · by_cases h2 : 200 < n2
    · exact specOk_many2 a1 a2 n1 c1 n2 c2 S1 S2 t d c w hn2 (by omega) h2
    · exact specOk_few a1 a2 n1 c1 n2 c2 S1 S2 t d c w (by omega) (by omega) hS1 hS2

set_option maxHeartbeats 400000 in
/-- spec.InputOk (5) hands on. -/
theorem specIn_any (a1 a2 : Option Addr) (n1 c1 n2 c2 : Nat) (S1 S2 : Nat → ByteArray) (t d c : Int) (w : World) (hn1 : n1 ≤ maxLen) (hn2 : n2 ≤ maxLen) (hS1 : Strs w a1 n1 S1) (hS2 : Strs w a2 n2 S2) :
    Calls Try.prog 5 #[.agg #[.slice a1 n1 c1, .slice a2 n2 c2, .int .i64 t, .int .i64 d, .int .i64 c]] w fun e w' =>
      e = .returned (.bool (inB n1 S1 n2 S2 t d c)) ∧ Below w.heap.size w w' := by
  have hb : ∀ o : Obj, Below w.heap.size w (w.alloc o) := fun o => (Below.refl _ _).alloc (Nat.le_refl _) o
  have T1 : ∀ o : Obj, Strs (w.alloc o) a1 n1 S1 := fun o => hS1.below (hb o) (Nat.le_refl _)
  have T2 : ∀ o : Obj, Strs (w.alloc o) a2 n2 S2 := fun o => hS2.below (hb o) (Nat.le_refl _)
  clear hS1 hS2
  go_enter Try.func5, Try.ntmps5
  go_wp2_with fail
  refine (specOk_any _ _ _ _ _ _ _ _ _ _ _ _ hn1 hn2 (T1 _) (T2 _)).mono ?_
  rintro e w' ⟨rfl, hbel⟩
  go_wp2_with fail
  go_ret
  exact ⟨rfl, (hb _).trans (hbel.mono (by simp))⟩
end Go.Proofs.Ytkccpocodompgab
