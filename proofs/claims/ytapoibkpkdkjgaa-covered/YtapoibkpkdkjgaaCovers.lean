/-
  covering.Cover: the samples, those that are bad covered.
-/
import Derived.Test.YtapoibkpkdkjgaaLaid
namespace Go.Proofs.Ytapoibkpkdkjgaa.covered
open Go.RowKit
open Cov

theorem nums_congr {w : World} {b n : Nat} {f g : Nat → Nat} (h : Nums w b n f) (e : ∀ j, f j = g j) : Nums w b n g := by
  intro j hj
  rw [h j hj, e j]

theorem marks_below {w w' : World} {B b n : Nat} {bad : Nat → Bool} (h : Marks w b n bad) (hB : Below B w w') (hs : w.heap.size ≤ B) : Marks w' b n bad := by
  intro j hj
  have := h j hj
  rw [hB.cell (Nat.lt_of_lt_of_le (World.block_lt_of_cell? w _ this) hs)]
  exact this

set_option maxHeartbeats 1000000 in
theorem covers (s : ByteArray) (c cc : Nat) (bad : Nat → Bool) (w : World) (hs : s.size ≤ 240) (hb : Marks w c s.size bad) :
    Calls Try.prog 8 #[.string s, .slice (some ⟨c, 0, none⟩) s.size cc] w fun e w' => ∃ r, e = .returned (.string r) ∧ IsCov s bad r ∧ Below w.heap.size w w' := by
  obtain ⟨cap, hcv⟩ : ∃ cap, (convert 9 33 (.string s)).run Try.prog w = .ok (.slice (some ⟨w.heap.size, 0, none⟩) s.size cap) (w.drew.alloc (Row s cap)) :=
    ⟨_, run_bytes_of_string (P := Try.prog) w 9 33 5 s Try.underlying9 Try.underlying33 Try.underlying5⟩
  have HB : Hid (Marks w c s.size bad) := hb
  clear hb
  go_enter Try.func8, Try.ntmps8
  go_wp2
  go_loopw [11] (fun i wr => ∃ k : Nat, k ≤ s.size ∧ i = .int .i64 k ∧ Nums wr w.heap.size s.size (upto (byteAt s) bad s.size k) ∧ Free wr w.heap.size s.size ∧ Below w.heap.size w wr) (fun i _ => s.size - (intOf i).toNat)
  case atStart => exact ⟨0, Nat.zero_le _, rfl, nums_congr (row_nums s cap w) (fun j => (upto_zero _ _ _ j).symm), row_free s cap w, ((Below.refl _ _).alloc (Nat.le_refl _) _).drew⟩
  case round =>
    obtain ⟨k, hk, rfl, hN, hF, hB⟩ := hrel
    have HM : Hid (Marks wr c s.size bad) := marks_below HB.out hB (Nat.le_refl _)
    by_cases hlt : k < s.size
    · have hm := HM.out k hlt
      cases hbk : bad k with
      | false =>
        rw [hbk] at hm
        have R : Hid (Nums wr w.heap.size s.size (upto (byteAt s) bad s.size (k + 1)) ∧ Free wr w.heap.size s.size ∧ Below w.heap.size w wr) := ⟨nums_congr hN (fun j => (upto_good hbk j).symm), hF, hB⟩
        clear hN hF hB hbk
        go_wp2
        go_roundw
        case rel => exact ⟨k + 1, by omega, by go_num, R.out.1, R.out.2.1, R.out.2.2⟩
        case measure => simp [intOf]; omega
      | true =>
        rw [hbk] at hm
        have hcall := cover_any w.heap.size c s.size cap cc k (byteAt s) bad wr hlt hs hN HM.out (byteAt_lt s) hbk
        have hc := hN k hlt
        have hf := hF k hlt
        have R : ∀ q, Nums ((wr.setCell ⟨w.heap.size, k, none⟩ (.int .u8 (cov (byteAt s) bad s.size k : Int))).drewN q) w.heap.size s.size (upto (byteAt s) bad s.size (k + 1)) ∧ Free ((wr.setCell ⟨w.heap.size, k, none⟩ (.int .u8 (cov (byteAt s) bad s.size k : Int))).drewN q) w.heap.size s.size ∧ Below w.heap.size w ((wr.setCell ⟨w.heap.size, k, none⟩ (.int .u8 (cov (byteAt s) bad s.size k : Int))).drewN q) :=
          fun q => ⟨nums_set hN hlt, free_set hF k _, below_drewN (hB.setCell (Nat.le_refl _) _) q⟩
        have RR := (show Hid (∀ q, Nums ((wr.setCell ⟨w.heap.size, k, none⟩ (.int .u8 (cov (byteAt s) bad s.size k : Int))).drewN q) w.heap.size s.size (upto (byteAt s) bad s.size (k + 1)) ∧ Free ((wr.setCell ⟨w.heap.size, k, none⟩ (.int .u8 (cov (byteAt s) bad s.size k : Int))).drewN q) w.heap.size s.size ∧ Below w.heap.size w ((wr.setCell ⟨w.heap.size, k, none⟩ (.int .u8 (cov (byteAt s) bad s.size k : Int))).drewN q)) from R)
        have HCALL := (show Hid (Calls Try.prog 9 _ wr _) from hcall)
        clear hN hF hB hbk R hcall
        go_wp2_with (go_at_call 9; refine HCALL.out.mono ?_; rintro e w1 ⟨rfl, q, rfl⟩)
        go_roundw
        case rel => exact ⟨k + 1, by omega, by go_num, (RR.out q).1, (RR.out q).2.1, (RR.out q).2.2⟩
        case measure => simp [intOf]; omega
    · have hN' : Nums wr w.heap.size s.size (cov (byteAt s) bad s.size) := by
        intro j hj
        rw [hN j hj]
        unfold upto
        rw [if_pos (by omega)]
      have hbk := back wr w.heap.size cap _ s.size (fun j => cov_lt (byteAt_lt s) j) hN'
      have HB2 : Hid (Below w.heap.size w wr) := hB
      clear hN hF hB hN'
      go_wp2
      go_ret
      exact ⟨_, rfl, outL_cov, HB2.out⟩
end Go.Proofs.Ytapoibkpkdkjgaa.covered
