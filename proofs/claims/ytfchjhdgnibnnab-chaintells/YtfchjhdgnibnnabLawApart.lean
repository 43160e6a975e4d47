/-
  Wrong of the program tells the first thing that is wrong with any rows.
  The closed fact that the statements of chapter 1 ask first is so.
  SameRows of the document's answer tells whether two lists of rows are one.
  The walk of the statement RowsApart: the call returns true and changes nothing that was there.
-/
import Derived.Test.YtfchjhdgnibnnabSeg
import Derived.BigQuiet
import Derived.Deep.QuietTactic
import Derived.Test.YtfchjhdgnibnnabPut
import Derived.Test.YtfchjhdgnibnnabChecked
import Derived.WalkKit
import Derived.WalkSpells
import Derived.WalkLawsBesides
import Derived.Below
import Derived.LoopTactic
import Derived.Outline
namespace Go.Proofs.Ytfchjhdgnibnnab
open Go.RowKit

end Go.Proofs.Ytfchjhdgnibnnab

namespace Go.Proofs.Ytfchjhdgnibnnab
open Go.RowKit

/-- The keys a, b and abc. -/
def kA : ByteArray := ⟨#[97]⟩
def kB : ByteArray := ⟨#[98]⟩
def kC : ByteArray := ⟨#[97, 98, 99]⟩
/-- The rows that are made. -/
def rAB : List Row := [(kA, 1), (kB, 2)]

theorem less_ab : less kA kB = true := by
  rw [less_def, ByteArray.toList_eq, ByteArray.toList_eq]; decide
theorem less_ba : less kB kA = false := less_asymm less_ab
theorem put_b : ins kB 2 [] = [(kB, 2)] := rfl
theorem put_ab : ins kA 1 [(kB, 2)] = rAB := by simp [ins, less_ab, less_ba, rAB]
theorem srt_ab : Srt rAB := by simp [Srt, rAB, less_ab]
theorem drop_ab : del kA rAB = [(kB, 2)] := by simp [del, rAB, less_irrefl]
theorem num_ab : num kB rAB = 2 := by simp [num, rAB, less_ab, less_irrefl]
theorem isAt_ab : isAt kB rAB = true := by simp [isAt, rAB, less_ab, less_irrefl]
theorem key_a : keyB kA = true := by decide
theorem key_b : keyB kB = true := by decide
theorem key_c : keyB kC = true := by decide
theorem wrong_ab : wrong rAB = 0 := by
  refine right_wrong ⟨srt_ab, fun x hx => ?_, fun x hx => ?_, fun x hx => ?_⟩ <;> (simp [rAB] at hx; rcases hx with rfl | rfl <;> first | exact key_a | exact key_b | decide)
theorem small_ab : Small rAB := fun x hx => by
  simp [rAB] at hx; rcases hx with rfl | rfl <;> decide

end Go.Proofs.Ytfchjhdgnibnnab

namespace Go.Proofs.Ytfchjhdgnibnnab
open Go.RowKit

set_option maxHeartbeats 400000 in
theorem same_calls (l : List Row) (ba bb : Option Addr) (ca cb : Nat) (w : World) (hl : l.length ≤ maxLen) (ha : Seg w ba l) (hb : Seg w bb l) :
    Calls Try.prog 10 #[.slice ba l.length ca, .slice bb l.length cb] w fun e w' => e = .returned (.bool true) ∧ Below w.heap.size w w' := by
  unfold maxLen at hl
  by_cases h0 : l = []
  · subst h0
    go_enter Try.func10, Try.ntmps10
    go_wp2
    go_loop [13] (fun i => i = .int .i64 0) (fun _ => 0)
    case atStart => rfl
    case round =>
      obtain rfl := hrel
      go_wp2
      go_ret
      exact ⟨rfl, Below.refl _ _⟩
  rcases ha with h | ⟨b1, o1, rfl, h1⟩
  · exact absurd h h0
  rcases hb with h | ⟨b2, o2, rfl, h2⟩
  · exact absurd h h0
  clear h0
  obtain ⟨n, hn⟩ : ∃ n, n = l.length := ⟨_, rfl⟩
  rw [← hn] at hl ⊢
  have HN : Hid (n = l.length) := hn
  clear hn
  have H1 : Hid (Cells w b1 o1 l) := h1
  have H2 : Hid (Cells w b2 o2 l) := h2
  clear h1 h2
  go_enter Try.func10, Try.ntmps10
  go_wp2
  go_loopw [13] (fun i wr => ∃ k : Nat, k ≤ n ∧ i = .int .i64 k ∧ ∃ q, wr = w.drewN q) (fun i _ => n - (intOf i).toNat)
  case atStart => exact ⟨0, Nat.zero_le _, rfl, 0, rfl⟩
  case round =>
    obtain ⟨k, hk, rfl, q, rfl⟩ := hrel
    by_cases hlt : k < n
    · obtain ⟨c1, d1⟩ := H1.out k (by rw [← HN.out]; exact hlt)
      obtain ⟨c2, d2⟩ := H2.out k (by rw [← HN.out]; exact hlt)
      generalize (l.getD k default).1 = kk at *
      generalize (l.getD k default).2 = nn at *
      have hi : (k : Int) < (n : Int) := by omega
      go_wp2
      go_quiet (fail)
      go_wp2
      go_roundw
      case rel => exact ⟨k + 1, by omega, by go_num, _, rfl⟩
      case measure => simp [intOf]; omega
    · go_wp2
      go_ret
      exact ⟨rfl, below_drewN (Below.refl _ _) q⟩
end Go.Proofs.Ytfchjhdgnibnnab

namespace Go.Proofs.Ytfchjhdgnibnnab
open Go.RowKit

theorem same_holds (l : List Row) (ba bb : Option Addr) (na nb ca cb : Nat) (w : World) (ha : Holds w ba na ca l) (hb : Holds w bb nb cb l) :
    Calls Try.prog 10 #[.slice ba na ca, .slice bb nb cb] w fun e w' => e = .returned (.bool true) ∧ Below w.heap.size w w' := by
  have h1 := ha.len
  have h2 := hb.len
  subst h1 h2
  exact same_calls l ba bb ca cb w (Nat.le_trans ha.hdr.le ha.hdr.max) ha.seg hb.seg

theorem get_holds (l : List Row) (ba : Option Addr) (na ca : Nat) (k : ByteArray) (w : World) (hn : na < 4611686018427387904) (hs : Srt l) (ha : Holds w ba na ca l) :
    Calls Try.prog 32 #[.slice ba na ca, .string k] w fun e w' => e = .returned (.tuple #[.int .i64 (num k l), .bool (isAt k l)]) ∧ Below w.heap.size w w' := by
  have h1 := ha.len
  subst h1
  exact get_calls l ba ca k w hn hs ha.seg

theorem ins_bound {k : ByteArray} {m : Int} {l : List Row} {n n' : Nat} (h : n = l.length) (h' : n' = (ins k m l).length) : n' ≤ n + 1 := by
  have := ins_length k m l; omega
theorem del_bound {k : ByteArray} {l : List Row} {n n' : Nat} (h : n = l.length) (h' : n' = (del k l).length) : n' ≤ n := by
  have := del_length k l; omega

end Go.Proofs.Ytfchjhdgnibnnab
