/-
  The leaves: pick, cut, cover.
-/
import Derived.Test.YtapoibkpkdkjgaaRows
import Derived.Test.YtapoibkpkdkjgaaMath
import Derived.WalkKit
import Derived.WalkSpells
import Derived.WalkLawsBesides
import Derived.Deep.QuietTactic
import Derived.BigQuiet
namespace Go.Proofs.Ytapoibkpkdkjgaa.covered
open Go.RowKit
open Cov

theorem ret_int {k : IntKind} {a b : Int} (h : a = b) : Ending.returned (.int k a) = .returned (.int k b) := by rw [h]

set_option maxHeartbeats 400000 in
theorem pick_any (c n : Int) (w : World) (h1 : -9223372036854775808 ≤ c) (h2 : c ≤ 9223372036854775807) (hn : 0 < n) (hn2 : n ≤ 1000) :
    Calls Try.prog 6 #[.int .i64 c, .int .i64 n] w fun e w' => e = .returned (.int .i64 (pickI c n)) ∧ w' = w := by
  by_cases h : c < 0
  · go_enter Try.func6, Try.ntmps6
    go_wp2
    go_ret
    exact ⟨ret_int (by unfold pickI; rw [if_pos h, ← Int.neg_tmod, Int.tmod_eq_emod_of_nonneg (by omega)]), rfl⟩
  · go_enter Try.func6, Try.ntmps6
    go_wp2
    go_ret
    exact ⟨ret_int (by unfold pickI; rw [if_neg (by omega)]), rfl⟩

set_option maxHeartbeats 400000 in
theorem cut_any (s : ByteArray) (w : World) (hs : s.size ≤ maxLen) :
    Calls Try.prog 4 #[.string s] w fun e w' => ∃ t : ByteArray, e = .returned (.string t) ∧ t.size ≤ 240 ∧ w' = w := by
  unfold maxLen at hs
  by_cases h : (240 : Int) < (s.size : Int)
  · go_enter Try.func4, Try.ntmps4
    go_wp2
    go_ret
    exact ⟨_, rfl, by simp; omega, rfl⟩
  · go_enter Try.func4, Try.ntmps4
    go_wp2
    go_ret
    exact ⟨_, rfl, by omega, rfl⟩

/-- The samples' cells: the numbers g j, at the head of block b. -/
def Nums (w : World) (b n : Nat) (g : Nat → Nat) : Prop := ∀ j, j < n → w.cell? ⟨b, j, none⟩ = some (.int .u8 (g j : Int))
/-- The marks' cells. -/
def Marks (w : World) (b n : Nat) (g : Nat → Bool) : Prop := ∀ j, j < n → w.cell? ⟨b, j, none⟩ = some (.bool (g j))

set_option maxHeartbeats 400000 in
theorem cover_zero (b c n cb cc : Nat) (w : World) :
    Calls Try.prog 9 #[.slice (some ⟨b, 0, none⟩) n cb, .slice (some ⟨c, 0, none⟩) n cc, .int .i64 0] w fun e w' => e = .returned (.int .u8 0) ∧ w' = w := by
  go_enter Try.func9, Try.ntmps9
  go_wp2
  go_ret
  exact ⟨rfl, rfl⟩

set_option maxHeartbeats 400000 in
theorem cover_like (b c n cb cc k : Nat) (g : Nat → Nat) (bad : Nat → Bool) (w : World) (hk : k + 1 < n) (hn : n ≤ 240) (hg : Nums w b n g) (hb : Marks w c n bad)
    (hc : (bad k || (k + 2 == n) || bad (k + 2)) = true) :
    Calls Try.prog 9 #[.slice (some ⟨b, 0, none⟩) n cb, .slice (some ⟨c, 0, none⟩) n cc, .int .i64 ((k : Int) + 1)] w fun e w' => e = .returned (.int .u8 (g k : Int)) ∧ w' = w := by
  have c0 := hg k (by omega)
  have c1 := hb k (by omega)
  by_cases h1 : bad k = true
  · rw [h1] at c1
    clear hg hb hc
    go_enter Try.func9, Try.ntmps9
    go_wp2
    go_ret
    exact ⟨rfl, rfl⟩
  · have h1' : bad k = false := by simpa using h1
    rw [h1'] at c1
    by_cases h2 : k + 2 = n
    · have h2' : (k : Int) + 1 + 1 = (n : Int) := by omega
      clear hg hb hc
      go_enter Try.func9, Try.ntmps9
      go_wp2
      go_ret
      exact ⟨rfl, rfl⟩
    · have h3 : bad (k + 2) = true := by simpa [h1', h2] using hc
      have c2 : w.cell? ⟨c, k + 1 + 1, none⟩ = some (.bool true) := by rw [← h3]; exact hb (k + 2) (by omega)
      have h2' : (k : Int) + 1 + 1 < (n : Int) := by omega
      clear hg hb hc h2
      go_enter Try.func9, Try.ntmps9
      go_wp2
      go_ret
      exact ⟨rfl, rfl⟩

set_option maxHeartbeats 400000 in
theorem cover_half (b c n cb cc k : Nat) (g : Nat → Nat) (bad : Nat → Bool) (w : World) (hk : k + 1 < n) (hn : n ≤ 240) (hg : Nums w b n g) (hb : Marks w c n bad) (hlt : ∀ j, g j < 256)
    (hc : (bad k || (k + 2 == n) || bad (k + 2)) = false) :
    Calls Try.prog 9 #[.slice (some ⟨b, 0, none⟩) n cb, .slice (some ⟨c, 0, none⟩) n cc, .int .i64 ((k : Int) + 1)] w fun e w' => e = .returned (.int .u8 (((g k + g (k + 2)) / 2 : Nat) : Int)) ∧ ∃ q, w' = w.drewN q := by
  simp only [Bool.or_eq_false_iff] at hc
  obtain ⟨⟨h1, h2⟩, h3⟩ := hc
  have h2n : k + 2 ≠ n := by simpa using h2
  have c0 := hg k (by omega)
  have c1 := hb k (by omega)
  rw [h1] at c1
  have c2 : w.cell? ⟨c, k + 1 + 1, none⟩ = some (.bool false) := by rw [← h3]; exact hb (k + 2) (by omega)
  have c3 : w.cell? ⟨b, k + 1 + 1, none⟩ = some (.int .u8 (g (k + 2) : Int)) := hg (k + 2) (by omega)
  have h2' : (k : Int) + 1 + 1 < (n : Int) := by omega
  have b0 := hlt k
  have b2 := hlt (k + 2)
  clear hg hb h2 h2n hlt h1 h3
  go_enter Try.func9, Try.ntmps9
  go_wp2
  go_quiet (fail)
  go_wp2
  go_ret
  exact ⟨ret_int (by omega), _, rfl⟩
end Go.Proofs.Ytapoibkpkdkjgaa.covered
