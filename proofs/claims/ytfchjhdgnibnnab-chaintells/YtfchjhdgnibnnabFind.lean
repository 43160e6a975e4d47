/-
  find of the program: the place of a key in rows that rise, and whether it is there; so around and Get.
-/
import Derived.Test.YtfchjhdgnibnnabSeg
import Derived.BigQuiet
import Derived.Deep.QuietTactic
namespace Go.Proofs.Ytfchjhdgnibnnab
open Go.RowKit

set_option maxHeartbeats 400000 in
/-- The closure that find hands to the search: is row i's key not below k? -/
theorem clo_calls (b o n c bx bk i : Nat) (ki k : ByteArray) (W : World) (hi : i < n) (ha : W.cell? ⟨bx, 0, none⟩ = some (.slice (some ⟨b, o, none⟩) n c))
    (hk : W.cell? ⟨bk, 0, none⟩ = some (.string k)) (hc : W.cell? ⟨b, o + i * 2, none⟩ = some (.string ki)) :
    Calls Try.prog 62 #[.int .i64 i, .pointer (some ⟨bx, 0, none⟩), .pointer (some ⟨bk, 0, none⟩)] W fun e w' => e = .returned (.bool (!less ki k)) ∧ ∃ q, w' = W.drewN q := by
  have hiz : (i : Int) < (n : Int) := by omega
  go_enter Try.func62, Try.ntmps62
  go_wp2
  go_quiet (fail)
  go_wp2
  go_ret
  exact ⟨rfl, _, rfl⟩

set_option maxHeartbeats 1000000 in
/-- sort.Search over that closure, of what is first false and then true. -/
theorem search_calls (cb0 cb1 : Value) (n : Nat) (p : Nat → Bool) (w : World) (hn : n < 4611686018427387904)
    (hf : ∀ m i, i < n → Calls Try.prog 62 #[.int .i64 i, cb0, cb1] (w.drewN m) fun e w' => e = .returned (.bool (p i)) ∧ ∃ q, w' = w.drewN q)
    (hmono : ∀ a b, a ≤ b → b < n → p a = true → p b = true) :
    Calls Try.prog 58 #[.int .i64 n, .func (.func 62) #[] #[cb0, cb1]] w fun e w' =>
      ∃ m : Nat, e = .returned (.int .i64 m) ∧ m ≤ n ∧ (∀ t, t < m → p t = false) ∧ (∀ t, m ≤ t → t < n → p t = true) ∧ ∃ q, w' = w.drewN q := by
  have HF := hid hf
  have HM := hid hmono
  clear hf hmono
  go_enter Try.func58, Try.ntmps58
  go_wp2
  go_loopw [5, 6] (fun i j wr => ∃ lo hi q : Nat, i = .int .i64 lo ∧ j = .int .i64 hi ∧ lo ≤ hi ∧ hi ≤ n ∧ wr = w.drewN q ∧
    Hid ((∀ t, t < lo → p t = false) ∧ (∀ t, hi ≤ t → t < n → p t = true))) (fun i j _ => (intOf j).toNat - (intOf i).toNat)
  case atStart => exact ⟨0, n, 0, rfl, rfl, Nat.zero_le _, Nat.le_refl _, rfl, ⟨fun t ht => absurd ht (Nat.not_lt_zero _), fun t h1 h2 => by omega⟩⟩
  case round =>
    obtain ⟨lo, hi, q, rfl, rfl, hlh, hin, rfl, I⟩ := hrel
    by_cases hlt : lo < hi
    · have hc := HF.out q ((lo + hi) / 2) (by omega)
      rw [show (((lo + hi) / 2 : Nat) : Int) = ((lo : Int) + (hi : Int)) / 2 by omega] at hc
      cases hp : p ((lo + hi) / 2) <;> rw [hp] at hc
      · have HP : Hid (p ((lo + hi) / 2) = false) := hp
        clear hp
        have HC := hid hc
        clear hc
        go_wp2_with fail
        refine HC.out.mono ?_
        rintro e w' ⟨rfl, nq, rfl⟩
        go_wp2
        go_roundw
        case measure => simp [intOf]; omega
        case rel =>
          refine ⟨(lo + hi) / 2 + 1, hi, nq, by rw [show ((lo : Int) + (hi : Int)) / 2 + 1 = (((lo + hi) / 2 + 1 : Nat) : Int) by omega], rfl, by omega, hin, rfl, ⟨fun t ht => ?_, I.out.2⟩⟩
          cases h : p t with
          | false => rfl
          | true => have := HM.out t ((lo + hi) / 2) (by omega) (by omega) h; rw [HP.out] at this; cases this
      · have HP : Hid (p ((lo + hi) / 2) = true) := hp
        clear hp
        have HC := hid hc
        clear hc
        go_wp2_with fail
        refine HC.out.mono ?_
        rintro e w' ⟨rfl, nq, rfl⟩
        go_wp2
        go_roundw
        case measure => simp [intOf]; omega
        case rel => exact ⟨lo, (lo + hi) / 2, nq, rfl, by rw [show ((lo : Int) + (hi : Int)) / 2 = (((lo + hi) / 2 : Nat) : Int) by omega], by omega, by omega, rfl, ⟨I.out.1, fun t ht htn => HM.out ((lo + hi) / 2) t ht htn HP.out⟩⟩
    · obtain rfl : hi = lo := by omega
      go_wp2
      go_ret
      exact ⟨hi, rfl, hin, I.out.1, I.out.2, q, rfl⟩

theorem cell_box (w : World) (v : Value) (t : TypeId) : (w.alloc (.cells #[v] t)).cell? ⟨w.heap.size, 0, none⟩ = some v := by
  rw [World.cell?_alloc_at _ _ _ _ (by simp)]; rfl
theorem cell_past {w : World} {b x : Nat} {v : Value} (o : Obj) (h : w.cell? ⟨b, x, none⟩ = some v) : (w.alloc o).cell? ⟨b, x, none⟩ = some v := by
  have hb := World.block_lt_of_cell? _ _ h
  rw [World.cell?_alloc_past _ _ _ hb]; exact h
theorem cell_drewN {w : World} {a : Addr} {v : Value} (q : Nat) (h : w.cell? a = some v) : (w.drewN q).cell? a = some v := h

set_option maxHeartbeats 1000000 in
theorem find_calls (l : List Row) (base : Option Addr) (c : Nat) (k : ByteArray) (w : World) (hl : l.length < 4611686018427387904) (hs : Srt l) (ha : Seg w base l) :
    Calls Try.prog 49 #[.slice base l.length c, .string k] w fun e w' => e = .returned (.tuple #[.int .i64 (pos k l), .bool (isAt k l)]) ∧ Below w.heap.size w w' := by
  have hmf : ∀ (fn : Fn) (first cap : Array Value) (w : World), (Instr.makeFunc fn first cap).run Try.prog w = .ok (.func fn first cap) w := fun _ _ _ _ => rfl
  by_cases h0 : l = []
  · subst h0
    clear ha hs
    obtain ⟨W, hW⟩ : ∃ W, W = (w.alloc (.cells #[.slice base 0 c] 23)).alloc (.cells #[.string k] 9) := ⟨_, rfl⟩
    have HS := hid (search_calls (.pointer (some ⟨w.heap.size, 0, none⟩)) (.pointer (some ⟨w.heap.size + 1, 0, none⟩)) 0 (fun _ => true) W (by omega) (fun _ i hi => absurd hi (Nat.not_lt_zero _)) (fun _ _ _ _ h => h))
    subst hW
    go_enter Try.func49, Try.ntmps49
    go_wp2_with fail
    refine HS.out.mono ?_
    rintro e w' ⟨m, rfl, hm, _, _, q, rfl⟩
    obtain rfl : m = 0 := by omega
    go_wp2
    go_quiet (fail)
    go_wp2
    go_ret2
    exact ⟨rfl, below_drewN (below_drewN (((Below.refl _ _).alloc (Nat.le_refl _) _).alloc (by simp) _) _) _⟩
  rcases ha with h | ⟨b, o, rfl, h1⟩
  · exact absurd h h0
  have hn0 : 0 < l.length := by cases l; exact absurd rfl h0; simp
  have hbw : b < w.heap.size := h1.lt hn0
  have HC := hid h1
  have HS0 := hid hs
  obtain ⟨n, hn⟩ : ∃ n, n = l.length := ⟨_, rfl⟩
  rw [← hn] at hl ⊢
  have HN := hid hn
  clear hn h1 hs h0 hn0
  obtain ⟨W, hW⟩ : ∃ W, W = (w.alloc (.cells #[.slice (some ⟨b, o, none⟩) n c] 23)).alloc (.cells #[.string k] 9) := ⟨_, rfl⟩
  have hbel : Below w.heap.size w W := by rw [hW]; exact (((Below.refl _ _).alloc (Nat.le_refl _) _).alloc (by simp) _)
  have ca : W.cell? ⟨w.heap.size, 0, none⟩ = some (.slice (some ⟨b, o, none⟩) n c) := by rw [hW]; exact cell_past _ (cell_box _ _ _)
  have ck : W.cell? ⟨w.heap.size + 1, 0, none⟩ = some (.string k) := by
    have := cell_box (w.alloc (.cells #[.slice (some ⟨b, o, none⟩) n c] 23)) (.string k) 9
    rw [World.size_alloc] at this
    rw [hW]; exact this
  have hcW := HC.out.below hbel hbw
  have HS := hid (search_calls (.pointer (some ⟨w.heap.size, 0, none⟩)) (.pointer (some ⟨w.heap.size + 1, 0, none⟩)) n (fun i => !less (l.getD i default).1 k) W hl
    (fun m i hi => (clo_calls b o n c w.heap.size (w.heap.size + 1) i (l.getD i default).1 k (W.drewN m) hi (cell_drewN m ca) (cell_drewN m ck) (cell_drewN m (hcW i (by rw [← HN.out]; exact hi)).1)).mono
      fun e w' ⟨he, q, hq⟩ => ⟨he, m + q, by rw [hq, World.drewN_drewN]⟩)
    (fun x y hxy hy hx => by
      by_cases e : x = y
      · subst e; exact hx
      · have h2 := srt_getD HS0.out (i := x) (j := y) (by omega) (by rw [← HN.out]; exact hy)
        cases h3 : less (l.getD y default).1 k with
        | false => rfl
        | true => rw [less_trans h2 h3] at hx; exact hx))
  have HW := hid hcW
  clear ca ck hcW
  have HB := hid hbel
  clear hbel
  subst hW
  go_enter Try.func49, Try.ntmps49
  go_wp2_with fail
  refine HS.out.mono ?_
  rintro e w' ⟨m, rfl, hm, f1, f2, q, rfl⟩
  have hpos : m = pos k l := pos_is (by rw [← HN.out]; exact hm) (fun t ht => by simpa using f1 t ht) (fun h => by simpa using f2 m (Nat.le_refl _) (by rw [HN.out]; exact h))
  have HP := hid hpos
  have HAT := hid (isAt_pos k l)
  rw [← hpos, ← HN.out] at HAT
  clear hpos f1 f2
  by_cases hlt : m < n
  · have c1 := (HW.out m (by rw [← HN.out]; exact hlt)).1
    generalize (l.getD m default).1 = kk at *
    have hdec : decide ((m : Int) < (n : Int)) = true := by simp; omega
    have hi : (m : Int) < (n : Int) := by omega
    go_wp2
    go_quiet (fail)
    go_wp2
    go_ret2
    refine ⟨?_, below_drewN (below_drewN HB.out _) _⟩
    rw [HAT.out, ← HP.out]
    simp [hlt]
  · have hdec : decide ((m : Int) < (n : Int)) = false := by simp; omega
    go_wp2
    go_quiet (fail)
    go_wp2
    go_ret2
    refine ⟨?_, below_drewN (below_drewN HB.out _) _⟩
    rw [HAT.out, ← HP.out]
    simp [hlt]
end Go.Proofs.Ytfchjhdgnibnnab
