/-
  Mark: the places of a list, marked.
-/
import Derived.Test.YtapoibkpkdkjgaaLeaf
namespace Go.Proofs.Ytapoibkpkdkjgaa.covered
open Go.RowKit
open Cov

/-- No cell of the first n of block b is shut to writes. -/
def Free (w : World) (b n : Nat) : Prop := ∀ j, j < n → w.frozen? ⟨b, j, none⟩ = false

theorem info4 : (Try.prog.info? 4).map (fun i => (i.zero, i.size, i.bytes)) = some (some (.bool false), 1, 1) := by kernel_rfl

theorem make_bools (n : Nat) (hn : n ≤ 240) (w : World) :
    (Instr.makeSlice 27 (.int .i64 (n : Int)) (.int .i64 (n : Int))).run Try.prog w = .ok (.slice (some ⟨w.heap.size, 0, none⟩) n n) (w.alloc (.cells (madeCells #[.bool false] n) 4)) := by
  obtain ⟨i, hi, hz, hs, hb⟩ := info_parts info4
  have := run_make (P := Try.prog) w 27 4 i (.bool false) Try.underlying27 hi hz .i64 .i64 (n : Int) (n : Int) (by omega) (by omega) (by rw [hb]; omega) (by omega)
  rw [hs] at this
  have e : (Value.bool false).cells = #[.bool false] := rfl
  rw [e] at this
  simpa using this

theorem made_cell (n j : Nat) (h : j < n) : (madeCells #[Value.bool false] n)[j]? = some (.bool false) := by
  rw [← Array.getElem?_toList, toList_madeCells_one, List.getElem?_replicate, if_pos h]

theorem made_marks (n : Nat) (w : World) : Marks (w.alloc (.cells (madeCells #[.bool false] n) 4)) w.heap.size n (isIn []) := by
  intro j hj
  rw [World.cell?_alloc_new, made_cell n j hj]; rfl

theorem made_free (n : Nat) (w : World) : Free (w.alloc (.cells (madeCells #[.bool false] n) 4)) w.heap.size n := by
  intro j _
  simp

theorem marks_set {w : World} {b n : Nat} {zs : List Int} (h : Marks w b n (isIn zs)) (q : Nat) (hq : q < n) : Marks (w.setCell ⟨b, q, none⟩ (.bool true)) b n (isIn (zs ++ [(q : Int)])) := by
  intro j hj
  rw [isIn_snoc]
  by_cases e : q = j
  · subst e
    rw [World.cell?_setCell_same w ⟨b, q, none⟩ (.bool true) (h q hq)]
    simp
  · rw [World.cell?_setCell_other w ⟨b, q, none⟩ ⟨b, j, none⟩ (.bool true) (by simp), h j hj]
    have : ((q : Int) == (j : Int)) = false := by simp; omega
    rw [this, Bool.or_false]

theorem free_set {w : World} {b n c : Nat} (h : Free w b n) (q : Nat) (v : Value) : Free (w.setCell ⟨c, q, none⟩ v) b n := by
  intro j hj
  rw [World.frozen?_setCell]
  exact h j hj

theorem ret_tuple {a b c d : Value} (h : a = b) (k : c = d) : Ending.returned (.tuple #[a, c]) = .returned (.tuple #[b, d]) := by rw [h, k]

theorem take_snoc (zs : List Int) (k : Nat) (h : k < zs.length) : zs.take (k + 1) = zs.take k ++ [zs.getD k 0] := by
  rw [List.take_succ_eq_append_getElem h, List.getD_eq_getElem?_getD, List.getElem?_eq_getElem h]; rfl

set_option maxHeartbeats 400000 in
theorem mark_nil (n : Nat) (w : World) (hn : n ≤ 240) :
    Calls Try.prog 7 #[.int .i64 (n : Int), .slice none 0 0] w fun e w' => e = .returned (.tuple #[.slice (some ⟨w.heap.size, 0, none⟩) n n, .bool true]) ∧ Marks w' w.heap.size n (isIn []) ∧ Below w.heap.size w w' ∧ w.heap.size < w'.heap.size := by
  have hmk := make_bools n hn
  have hM := made_marks n w
  have HM : Hid (Marks (w.alloc (.cells (madeCells #[.bool false] n) 4)) w.heap.size n (isIn [])) := hM
  clear hM
  go_enter Try.func7, Try.ntmps7
  go_wp2
  refine wp_loop_rounds 1 ?_
  rw [rounds_succ]
  go_wp2
  go_ret2
  exact ⟨rfl, HM.out, (Below.refl _ _).alloc (Nat.le_refl _) _, by simp⟩

set_option maxHeartbeats 1000000 in
theorem mark_some (b off len cap n : Nat) (zs : List Int) (w : World) (hn : n ≤ 240) (hz : zs.length = len) (hlen : len ≤ 17592186044416)
    (hcell : ∀ i, i < len → w.cell? ⟨b, off + i, none⟩ = some (.int .i64 (zs.getD i 0))) (hall : ∀ z ∈ zs, 0 ≤ z ∧ z < (n : Int)) :
    Calls Try.prog 7 #[.int .i64 (n : Int), .slice (some ⟨b, off, none⟩) len cap] w fun e w' => e = .returned (.tuple #[.slice (some ⟨w.heap.size, 0, none⟩) n n, .bool true]) ∧ Marks w' w.heap.size n (isIn zs) ∧ Below w.heap.size w w' ∧ w.heap.size < w'.heap.size := by
  have hmk := make_bools n hn
  have HC : Hid (∀ i, i < len → w.cell? ⟨b, off + i, none⟩ = some (.int .i64 (zs.getD i 0))) := hcell
  have HA : Hid (∀ z ∈ zs, 0 ≤ z ∧ z < (n : Int)) := hall
  have HZ : Hid (zs.length = len) := hz
  clear hcell hall hz
  go_enter Try.func7, Try.ntmps7
  go_wp2
  go_loopw [13] (fun i wr => ∃ k : Nat, k ≤ len ∧ i = .int .i64 k ∧ Marks wr w.heap.size n (isIn (zs.take k)) ∧ Free wr w.heap.size n ∧ Below w.heap.size w wr ∧ w.heap.size < wr.heap.size) (fun i _ => len - (intOf i).toNat)
  case atStart => exact ⟨0, Nat.zero_le _, rfl, made_marks n w, made_free n w, (Below.refl _ _).alloc (Nat.le_refl _) _, by simp⟩
  case round =>
    obtain ⟨k, hk, rfl, hM, hF, hB, hS⟩ := hrel
    by_cases hlt : k < len
    · have hk' : k < zs.length := by rw [HZ.out]; exact hlt
      have hmem : zs.getD k 0 ∈ zs := by
        rw [List.getD_eq_getElem?_getD, List.getElem?_eq_getElem hk']
        exact List.getElem_mem hk'
      obtain ⟨p0, p1⟩ := HA.out _ hmem
      obtain ⟨q, hq⟩ : ∃ q : Nat, zs.getD k 0 = (q : Int) := ⟨(zs.getD k 0).toNat, by omega⟩
      have hcw := HC.out k hlt
      rw [hq] at p1 hcw
      have hqn : q < n := by omega
      have hc : wr.cell? ⟨b, off + k, none⟩ = some (.int .i64 (q : Int)) := (hB.cell (World.block_lt_of_cell? w _ hcw)).trans hcw
      have hm := hM q hqn
      have hf := hF q hqn
      have R : Hid (Marks (wr.setCell ⟨w.heap.size, q, none⟩ (.bool true)) w.heap.size n (isIn (zs.take (k + 1))) ∧ Free (wr.setCell ⟨w.heap.size, q, none⟩ (.bool true)) w.heap.size n ∧ Below w.heap.size w (wr.setCell ⟨w.heap.size, q, none⟩ (.bool true)) ∧ w.heap.size < (wr.setCell ⟨w.heap.size, q, none⟩ (.bool true)).heap.size) := by
        refine ⟨?_, free_set hF q _, hB.setCell (Nat.le_refl _) _, by simpa using hS⟩
        rw [take_snoc zs k hk', hq]
        exact marks_set hM q hqn
      clear hM hF hB hmem hq p0 hk' hcw
      go_wp2
      go_roundw
      case rel => exact ⟨k + 1, by omega, by go_num, R.out.1, R.out.2.1, R.out.2.2.1, R.out.2.2.2⟩
      case measure => simp [intOf]; omega
    · have hkl : zs.take k = zs := List.take_of_length_le (by rw [HZ.out]; omega)
      rw [hkl] at hM
      have R : Hid (Marks wr w.heap.size n (isIn zs) ∧ Below w.heap.size w wr ∧ w.heap.size < wr.heap.size) := ⟨hM, hB, hS⟩
      clear hM hF hB hkl hS
      go_wp2
      go_ret2
      exact ⟨rfl, R.out⟩

/-- No samples, and place 0: there is none. -/
theorem mark_none (b : Nat) (w : World) (hc : w.cell? ⟨b, 0, none⟩ = some (.int .i64 0)) :
    Calls Try.prog 7 #[.int .i64 0, .slice (some ⟨b, 0, none⟩) 1 1] w fun e w' => e = .returned (.tuple #[.slice none 0 0, .bool false]) ∧ Below w.heap.size w w' := by
  have hmk : ∀ w, (Instr.makeSlice 27 (.int .i64 0) (.int .i64 0)).run Try.prog w = .ok (.slice (some ⟨w.heap.size, 0, none⟩) 0 0) (w.alloc (.cells (madeCells #[.bool false] 0) 4)) := fun w => make_bools 0 (by omega) w
  have hb := World.block_lt_of_cell? w _ hc
  have hc2 : (w.alloc (.cells (madeCells #[.bool false] 0) 4)).cell? ⟨b, 0, none⟩ = some (.int .i64 0) := by rw [World.cell?_alloc_lt w _ _ hb]; exact hc
  go_enter Try.func7, Try.ntmps7
  go_wp2
  refine wp_loop_rounds 1 ?_
  rw [rounds_succ]
  go_wp2
  go_ret2
  exact ⟨rfl, (Below.refl _ _).alloc (Nat.le_refl _) _⟩
end Go.Proofs.Ytapoibkpkdkjgaa.covered
