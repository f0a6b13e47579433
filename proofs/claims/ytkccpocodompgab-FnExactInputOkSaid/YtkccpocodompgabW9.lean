/-
  laws.szStringS (9): what it leaves says that the list is short, or it is below 0.
-/
import Derived.Test.YtkccpocodompgabRows
import Derived.Test.YtkccpocodompgabBase
import Derived.WalkSpells
import Derived.WalkLawsBesides
namespace Go.Proofs.Ytkccpocodompgab
open Go.RowKit

set_option maxHeartbeats 400000 in
theorem szStringS_any (a : Option Addr) (n cap : Nat) (S : Nat → ByteArray) (left : Int) (w : World) (hn : n ≤ maxLen) (hS : Strs w a n S) (h0 : 0 ≤ left) (h1 : left ≤ 1048576) :
    Calls Try.prog 9 #[.slice a n cap, .int .i64 left] w fun e w' => ∃ r : Int, e = .returned (.int .i64 r) ∧ (r = -1 ∨ (0 ≤ r ∧ r ≤ left ∧ (n : Int) ≤ left)) ∧ w' = w := by
  unfold maxLen at hn
  by_cases hb : left < n
  · go_enter Try.func9, Try.ntmps9
    go_wp2
    go_ret
    exact ⟨-1, rfl, Or.inl rfl, rfl⟩
  · go_enter Try.func9, Try.ntmps9
    go_wp2
    go_loop [1, 5] (fun l i => ∃ (k : Nat) (r : Int), k ≤ n ∧ i = .int .i64 k ∧ l = .int .i64 r ∧ 0 ≤ r ∧ r ≤ left) (fun _ i => n - (intOf i).toNat)
    case atStart => exact ⟨0, _, Nat.zero_le _, rfl, rfl, by omega, by omega⟩
    case round =>
      obtain ⟨k, r, hk, rfl, rfl, hr0, hr1⟩ := hrel
      by_cases hlt : k < n
      · obtain ⟨b, off, rfl, hc, hs⟩ := hS k hlt
        unfold maxLen at hs
        obtain ⟨s, hsS⟩ : ∃ s, s = S k := ⟨_, rfl⟩
        rw [← hsS] at hc hs
        clear hsS
        by_cases hbig : r < (s.size : Int)
        · go_wp2
          go_ret
          exact ⟨-1, rfl, Or.inl rfl, rfl⟩
        · go_wp2
          go_round
          case rel => exact ⟨k + 1, r - s.size, by omega, by go_num, rfl, by omega, by omega⟩
          case measure => simp [intOf]; omega
      · go_wp2
        go_ret
        exact ⟨r, rfl, Or.inr (by first | exact ⟨hr0, hr1⟩ | exact ⟨hr0, hr1, by omega⟩), rfl⟩
end Go.Proofs.Ytkccpocodompgab
