/-
  impl.inputsOk (12): what it answers of a []string.
-/
import Derived.Test.YtkccpocodompgabRows
import Derived.Test.YtkccpocodompgabBase
import Derived.WalkSpells
import Derived.WalkLawsBesides
namespace Go.Proofs.Ytkccpocodompgab
open Go.RowKit

set_option maxHeartbeats 400000 in
theorem inputsOk_any (a : Option Addr) (n cap : Nat) (S : Nat → ByteArray) (w : World) (hn : n ≤ maxLen) (hS : Strs w a n S) :
    Calls Try.prog 12 #[.slice a n cap] w fun e w' => e = .returned (.bool (listB n S)) ∧ w' = w := by
  unfold maxLen at hn
  go_enter Try.func12, Try.ntmps12
  go_wp2
  go_loop [7] (fun i => ∃ k : Nat, k ≤ n ∧ i = .int .i64 k ∧ ∀ j, j < k → (S j).size ≤ 4000) (fun i => n - (intOf i).toNat)
  case atStart => exact ⟨0, Nat.zero_le _, rfl, fun j hj => absurd hj (Nat.not_lt_zero j)⟩
  case round =>
    obtain ⟨k, hk, rfl, hall0⟩ := hrel
    have hall : Hid (∀ j, j < k → (S j).size ≤ 4000) := hall0
    clear hall0
    by_cases hlt : k < n
    · obtain ⟨b, off, rfl, hc, hs⟩ := hS k hlt
      unfold maxLen at hs
      obtain ⟨s, hsS⟩ : ∃ s, s = S k := ⟨_, rfl⟩
      rw [← hsS] at hc hs
      have HS : Hid (s = S k) := hsS
      clear hsS
      by_cases hbig : 4000 < s.size
      · go_wp2
        go_ret
        exact ⟨ret_bool (by rw [listB, shortB_false hlt (by rw [← HS.out]; exact hbig)]; rfl), rfl⟩
      · go_wp2
        go_round
        case rel => exact ⟨k + 1, by omega, by go_num, fun j hj => if e : j = k then by rw [e, ← HS.out]; omega else hall.out j (by omega)⟩
        case measure => simp [intOf]; omega
    · go_wp2
      go_ret
      have hkn : k = n := by omega
      exact ⟨ret_bool (by rw [listB, shortB_true.2 (fun i hi => hall.out i (by omega))]; simp; omega), rfl⟩
end Go.Proofs.Ytkccpocodompgab
