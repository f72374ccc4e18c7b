/-
  groove.Cover: the call itself.
-/
import Derived.Test.YtapoibkpkdkjgaaCovers
namespace Go.Proofs.Ytapoibkpkdkjgaa.covered
open Go.RowKit
open Cov

/-- A list of numbers: nil, or cells that hold them. -/
def Ints (w : World) (v : Value) (zs : List Int) : Prop :=
  (v = .slice none 0 0 ∧ zs = []) ∨ ∃ b off len cap, v = .slice (some ⟨b, off, none⟩) len cap ∧ zs.length = len ∧ ∀ i, i < len → w.cell? ⟨b, off + i, none⟩ = some (.int .i64 (zs.getD i 0))

theorem mark_any (n : Nat) (v : Value) (zs : List Int) (w : World) (hn : n ≤ 240) (hlen : zs.length ≤ 17592186044416) (hv : Ints w v zs) (hall : ∀ z ∈ zs, 0 ≤ z ∧ z < (n : Int)) :
    Calls Try.prog 7 #[.int .i64 (n : Int), v] w fun e w' => e = .returned (.tuple #[.slice (some ⟨w.heap.size, 0, none⟩) n n, .bool true]) ∧ Marks w' w.heap.size n (isIn zs) ∧ Below w.heap.size w w' ∧ w.heap.size < w'.heap.size := by
  rcases hv with ⟨rfl, rfl⟩ | ⟨b, off, len, cap, rfl, hz, hc⟩
  · exact mark_nil n w hn
  · exact mark_some b off len cap n zs w hn hz (by omega) hc hall

set_option maxHeartbeats 400000 in
theorem cover_ok (s : ByteArray) (v : Value) (zs : List Int) (w : World) (hs : s.size ≤ 240) (hlen : zs.length ≤ 17592186044416) (hv : Ints w v zs) (hall : ∀ z ∈ zs, 0 ≤ z ∧ z < (s.size : Int)) :
    Calls Try.prog 5 #[.string s, v] w fun e w' => ∃ r, e = .returned (.tuple #[.string r, .int .i64 0]) ∧ IsCov s (isIn zs) r ∧ Below w.heap.size w w' := by
  have H7 : Hid (Calls Try.prog 7 #[.int .i64 (s.size : Int), v] w _) := mark_any s.size v zs w hs hlen hv hall
  clear hv hall
  have hs' : ¬ (240 : Int) < (s.size : Int) := by omega
  go_enter Try.func5, Try.ntmps5
  go_wp2_with fail
  refine H7.out.mono ?_
  rintro e w1 ⟨rfl, hM, hB, _⟩
  have H8 : Hid (Calls Try.prog 8 #[.string s, .slice (some ⟨w.heap.size, 0, none⟩) s.size s.size] w1 _) := covers s w.heap.size s.size (isIn zs) w1 hs hM
  have HB : Hid (Below w.heap.size w w1) := hB
  clear hM hB
  go_wp2_with fail
  refine H8.out.mono ?_
  rintro e w2 ⟨r, rfl, hr, hB2⟩
  have HR : Hid (IsCov s (isIn zs) r ∧ Below w.heap.size w w2) := ⟨hr, HB.out.trans (hB2.mono HB.out.size)⟩
  clear hr hB2
  go_wp2
  go_ret2
  exact ⟨_, rfl, HR.out⟩

set_option maxHeartbeats 400000 in
theorem cover_none (b : Nat) (w : World) (hc : w.cell? ⟨b, 0, none⟩ = some (.int .i64 0)) :
    Calls Try.prog 5 #[.string ⟨#[]⟩, .slice (some ⟨b, 0, none⟩) 1 1] w fun e w' => e = .returned (.tuple #[.string ⟨#[]⟩, .int .i64 4]) ∧ Below w.heap.size w w' := by
  have H7 : Hid (Calls Try.prog 7 #[.int .i64 0, .slice (some ⟨b, 0, none⟩) 1 1] w _) := mark_none b w hc
  clear hc
  go_enter Try.func5, Try.ntmps5
  go_wp2_with fail
  refine H7.out.mono ?_
  rintro e w1 ⟨rfl, hB⟩
  have HB : Hid (Below w.heap.size w w1) := hB
  clear hB
  go_wp2
  go_ret2
  exact ⟨rfl, HB.out⟩
end Go.Proofs.Ytapoibkpkdkjgaa.covered
