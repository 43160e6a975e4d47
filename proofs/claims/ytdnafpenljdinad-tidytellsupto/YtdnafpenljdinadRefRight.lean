/-
  Of and Rows of the program: chains of rows, and what keys have ahead of a deed.
  The document's own RightChains, walked.
-/
import Derived.Test.YtdnafpenljdinadChainOld
import Derived.Test.YtdnafpenljdinadChainAt
import Derived.Deep.DeepCutAuto
namespace Go.Proofs.Ytdnafpenljdinad
open Go.RowKit

/-- How rows are told, if they are. -/
def RowsTold (w w' : World) (o : Option (List Row)) (e : Ending) : Prop := ∃ (b : Option Addr) (n c : Nat) (ok : Bool), e = .returned (.tuple #[.slice b n c, .bool ok]) ∧ ok = o.isSome ∧ Holds w' b n c (o.getD []) ∧ Below w.heap.size w w'
theorem rowCells_snoc (l : List Row) (x : Row) : rowCells (l ++ [x]) = rowCells l ++ [.string x.1, .int .i64 x.2] := by rw [rowCells_append]; rfl

set_option maxHeartbeats 2000000 in
set_option maxRecDepth 100000 in
theorem rowsC_calls (L : List Chn) (base : Option Addr) (n c : Nat) (by_ : Int) (w : World) (hf : FitC L) (ha : ChainsIn w base n c L) :
    Calls Try.prog 20 #[.slice base n c, .int .i64 by_] w fun e w' => RowsTold w w' (rowsC L by_) e := by
  have hcn : n ≤ 387420489 := by rw [ha.len]; exact hf.count
  have HA := hid ha
  have HLN := hid ha.len
  have HF := hid hf
  clear ha hf
  go_enter Try.func20, Try.ntmps20
  go_wp2
  go_loopw [6, 12] (fun v i wr => ∃ (j r : Nat) (R : List Row), j ≤ n ∧ r ≤ j ∧ i = .int .i64 j ∧ Hid (wr.ownsRow w.heap.size 45 2 v r (rowCells R)) ∧ Hid (rowsGo L by_ (L.take j) = some R) ∧ Hid (Below w.heap.size w wr)) (fun _ i _ => n - (intOf i).toNat)
  case atStart => exact ⟨0, 0, [], Nat.zero_le _, Nat.le_refl _, rfl, World.ownsRow_nil _ _ _ _, rfl, Below.refl _ _⟩
  case round =>
    obtain ⟨j, r, R, hj, hrj, rfl, HO, HR, HBR⟩ := hrel
    by_cases hlt : j < n
    · have hjl : j < L.length := by rw [← HLN.out]; exact hlt
      have hi : (j : Int) < (n : Int) := by omega
      rcases (HA.out.below HBR.out).run with h | ⟨b, o, rfl, hrun⟩
      · omega
      obtain ⟨vb, vn, vc, c0, c1, hvv, hkz⟩ := hrun j hlt
      have hbw : b < wr.heap.size := by simpa using World.block_lt_of_cell? _ _ c0
      have hfew := HF.out.few _ (memC hjl)
      have HRI := hid (HF.out.rise _ (memC hjl))
      have HBO := hid (before_own HF.out.srt (memC hjl) by_)
      have HSN := hid (rowsGo_snoc L by_ (L.getD j default) HR.out)
      rw [← take_snoc_getD hjl] at HSN
      have HST := hid (rowsGo_stop L by_ (memC hjl))
      rcases hx : L.getD j default with ⟨key, vs⟩
      rw [hx] at c0 hvv hfew HRI HBO HSN HST
      simp only at c0 hvv hfew HRI HBO HSN HST
      clear hx hrun
      have hvn := Vers.count hvv
      have HGW := hid (grew wr (.cells #[.string key, .slice vb vn vc] 36))
      have HLB := hid (lastBelow_calls vs vb vn vc by_ _ (by omega) HRI.out (hvv.below (by decide) HGW.out))
      rw [← HBO.out] at HLB
      clear hvv hkz hvn HBO HRI
      generalize before L key by_ = q at *
      go_wp2_with fail
      refine HLB.out.mono ?_
      rintro e w1 ⟨y, m, h, x, rfl, rfl, hb1⟩
      simp only [Ver.made, Ver.has_, Ver.n] at HSN HST
      have k0 := kept_cell hb1 (box_cell wr #[.string key, .slice vb vn vc] 36 0 _ rfl)
      have hwl : wr.heap.size < w1.heap.size := by simpa using World.block_lt_of_cell? _ _ k0
      have HB1 := hid (below_deep HGW.out hb1)
      have HB2 := hid (below_deep HB1.out (grew w1 (.cells #[.int .i64 y, .bool m, .bool h, .int .i64 x] 60)))
      clear hb1 HLB
      cases m with
      | false =>
        have HNO : Hid (rowsC L by_ = none) := HST.out (by simp)
        go_wp2
        go_ret2
        exact ⟨_, _, _, _, rfl, by rw [HNO.out]; rfl, by rw [HNO.out]; exact Holds.empty _ rfl rfl ⟨Nat.le_refl _, Nat.zero_le _, fun _ => rfl⟩, below_deep HBR.out HB2.out⟩
      | true =>
        cases h with
        | false =>
          have HNX : Hid (rowsGo L by_ (L.take (j + 1)) = some R) := by show _ = _; rw [HSN.out]; rfl
          go_wp2
          go_roundw
          case rel => exact ⟨j + 1, r, R, by omega, by omega, by go_num, owns_keep HO.out HB2.out, HNX, below_deep HBR.out HB2.out⟩
          case measure => simp [intOf]; omega
        | true =>
          have HNX : Hid (rowsGo L by_ (L.take (j + 1)) = some (R ++ [(key, x)])) := by show _ = _; rw [HSN.out]; rfl
          have HLO := hid (lies_one (w1.alloc (.cells #[.int .i64 y, .bool true, .bool true, .int .i64 x] 60)) #[.string key, .int .i64 x] 45 2 rfl)
          rw [World.size_alloc] at HLO
          have HOW := hid ((owns_keep HO.out HB2.out).alloc (.cells #[.string key, .int .i64 x] 45))
          have HSE := hid (rowCells_one [(key, x)])
          have HBY : Hid ((r + 1) * 24 ≤ 140737488355328) := by show _ ≤ _; omega
          have HSZ := hid (le_box (o := .cells #[.string key, .int .i64 x] 45) (Nat.le_trans HBR.out.size HB2.out.size))
          go_wp2_with (at_builtin; refine wpList_onto _ rfl _ _ 23 45 2 24 _ Try.underlying23 pairInfo rfl (by decide) (by decide) rfl w.heap.size _ r (rowCells R) rfl HOW.out _ 1 _ _ rfl HLO.out HSE.out HBY.out HSZ.out ?_)
          intro v3 w3 hown3 hg3
          have HO3 : Hid (w3.ownsRow w.heap.size 45 2 v3 (r + 1) (rowCells (R ++ [(key, x)]))) := by
            show World.ownsRow _ _ _ _ _ _ _
            rw [rowCells_snoc]; exact hown3
          have HB3 := hid (((below_deep HBR.out HB2.out).alloc (Nat.le_trans HBR.out.size HB2.out.size) (.cells #[.string key, .int .i64 x] 45)).grown hg3 HSZ.out (fun a ha => (HO.out.lt a ha).1))
          clear hown3 hg3
          go_wp2
          go_roundw
          case rel => exact ⟨j + 1, r + 1, _, by omega, by omega, by go_num, HO3, HNX, HB3⟩
          case measure => simp [intOf]; omega
    · obtain rfl : j = n := by omega
      have HR3 : Hid (rowsC L by_ = some R) := by
        have := HR.out
        rw [List.take_of_length_le (by rw [← HLN.out]; exact Nat.le_refl _)] at this
        exact this
      obtain ⟨b2, c2, rfl, hho⟩ := holds_of_owned HO.out
      have HH := hid hho
      clear hho
      go_wp2
      go_ret2
      exact ⟨_, _, _, _, rfl, by rw [HR3.out]; rfl, by rw [HR3.out]; exact HH.out, HBR.out⟩
end Go.Proofs.Ytdnafpenljdinad

namespace Go.Proofs.Ytdnafpenljdinad
open Go.RowKit

/-- A version is right, and behind the one ahead of it. -/
def RightVAt (l : List Ver) (k : Nat) : Prop := RightV (l.getD k default) ∧ (0 < k → (l.getD (k - 1) default).by_ < (l.getD k default).by_)
def RightCAt (L : List Chn) (i : Nat) : Prop := keyB (L.getD i default).1 = true ∧ (0 < i → less (L.getD (i - 1) default).1 (L.getD i default).1 = true) ∧ (L.getD i default).2 ≠ [] ∧ ∀ k, k < (L.getD i default).2.length → RightVAt (L.getD i default).2 k
theorem memD {α : Type} [Inhabited α] {l : List α} {i : Nat} (h : i < l.length) : l.getD i default ∈ l := by simp [List.getD, h]
theorem mem_at {α : Type} [Inhabited α] {l : List α} {x : α} (h : x ∈ l) : ∃ i, i < l.length ∧ l.getD i default = x := by
  obtain ⟨i, hi, rfl⟩ := List.getElem_of_mem h
  exact ⟨i, hi, by simp [List.getD, hi]⟩
theorem rise_of {l : List Ver} (h : ∀ k, k < l.length → RightVAt l k) : Rise l := by
  unfold Rise
  rw [List.pairwise_iff_getElem]
  have key : ∀ d i (hi : i < l.length) (hj : i + d + 1 < l.length), l[i].by_ < l[i + d + 1].by_ := by
    intro d
    induction d with
    | zero =>
      intro i hi hj
      have := (h (i + 1) hj).2 (by omega)
      simpa [List.getD, hi, hj] using this
    | succ d ih =>
      intro i hi hj
      have h1 := ih i hi (by omega)
      have h2 := (h (i + (d + 1) + 1) hj).2 (by omega)
      have h3 : i + d + 1 < l.length := by omega
      simp only [Nat.add_sub_cancel] at h2
      rw [show i + (d + 1) = i + d + 1 from by omega] at h2
      simp only [List.getD, List.getElem?_eq_getElem h3, List.getElem?_eq_getElem (show i + d + 1 + 1 < l.length by omega), Option.getD_some] at h2
      exact Int.lt_trans h1 h2
  intro i j hi hj hij
  obtain ⟨d, rfl⟩ : ∃ d, j = i + d + 1 := ⟨j - i - 1, by omega⟩
  exact key d i hi hj
theorem srtC_of {L : List Chn} (h : ∀ i, i < L.length → RightCAt L i) : SrtC L := by
  unfold SrtC
  rw [List.pairwise_iff_getElem]
  have key : ∀ d i (hi : i < L.length) (hj : i + d + 1 < L.length), less L[i].1 L[i + d + 1].1 = true := by
    intro d
    induction d with
    | zero =>
      intro i hi hj
      have := (h (i + 1) hj).2.1 (by omega)
      simpa [List.getD, hi, hj] using this
    | succ d ih =>
      intro i hi hj
      have h1 := ih i hi (by omega)
      have h2 := (h (i + (d + 1) + 1) hj).2.1 (by omega)
      have h3 : i + d + 1 < L.length := by omega
      simp only [Nat.add_sub_cancel] at h2
      rw [show i + (d + 1) = i + d + 1 from by omega] at h2
      simp only [List.getD, List.getElem?_eq_getElem h3, List.getElem?_eq_getElem (show i + d + 1 + 1 < L.length by omega), Option.getD_some] at h2
      exact less_trans h1 h2
  intro i j hi hj hij
  obtain ⟨d, rfl⟩ : ∃ d, j = i + d + 1 := ⟨j - i - 1, by omega⟩
  exact key d i hi hj
theorem rightC_of {L : List Chn} (h : ∀ i, i < L.length → RightCAt L i) : RightC L := by
  refine ⟨srtC_of h, fun c hc => ?_, fun c hc => ?_, fun c hc => ?_, fun c hc v hv => ?_⟩
  · obtain ⟨i, hi, rfl⟩ := mem_at hc; exact (h i hi).1
  · obtain ⟨i, hi, rfl⟩ := mem_at hc; exact (h i hi).2.2.1
  · obtain ⟨i, hi, rfl⟩ := mem_at hc; exact rise_of (h i hi).2.2.2
  · obtain ⟨i, hi, rfl⟩ := mem_at hc
    obtain ⟨k, hk, rfl⟩ := mem_at hv
    exact ((h i hi).2.2.2 k hk).1
theorem rightC_at {L : List Chn} (h : RightC L) {i : Nat} (hi : i < L.length) : RightCAt L i := by
  have hm := memC hi
  refine ⟨h.key _ hm, fun h0 => srtC_lt h.srt (by omega) hi, h.some_ _ hm, fun k hk => ⟨h.ver _ hm _ (memD hk), fun h0 => rise_lt (h.rise _ hm) (by omega) hk⟩⟩
/-- What is first wrong with a version. -/
theorem ver_parts (y x : Int) (mm hh pr : Bool) :
    decide (y < -1) = true ∨ (decide (y < -1) = false ∧ decide (1000000 < y) = true) ∨ (decide (y < -1) = false ∧ decide (1000000 < y) = false ∧ pr = true) ∨
    (decide (y < -1) = false ∧ decide (1000000 < y) = false ∧ pr = false ∧ decide (x < -1073741824) = true) ∨
    (decide (y < -1) = false ∧ decide (1000000 < y) = false ∧ pr = false ∧ decide (x < -1073741824) = false ∧ decide (1073741824 < x) = true) ∨
    (decide (y < -1) = false ∧ decide (1000000 < y) = false ∧ pr = false ∧ decide (x < -1073741824) = false ∧ decide (1073741824 < x) = false ∧ hh = false ∧ (x != 0) = true) ∨
    (decide (y < -1) = false ∧ decide (1000000 < y) = false ∧ pr = false ∧ decide (x < -1073741824) = false ∧ decide (1073741824 < x) = false ∧ hh = true ∧ mm = false) ∨
    (decide (y < -1) = false ∧ decide (1000000 < y) = false ∧ pr = false ∧ decide (x < -1073741824) = false ∧ decide (1073741824 < x) = false ∧ hh = false ∧ (x != 0) = false ∧ mm = false) ∨
    (decide (y < -1) = false ∧ decide (1000000 < y) = false ∧ pr = false ∧ decide (x < -1073741824) = false ∧ decide (1073741824 < x) = false ∧ hh = false ∧ (x != 0) = false ∧ mm = true) ∨
    (decide (y < -1) = false ∧ decide (1000000 < y) = false ∧ pr = false ∧ decide (x < -1073741824) = false ∧ decide (1073741824 < x) = false ∧ hh = true ∧ mm = true) := by
  cases decide (y < -1) <;> cases decide (1000000 < y) <;> cases pr <;> cases decide (x < -1073741824) <;> cases decide (1073741824 < x) <;> cases hh <;> cases (x != 0) <;> cases mm <;> simp

theorem rightV_of {y x : Int} {mm hh : Bool} (h1 : decide (y < -1) = false) (h2 : decide (1000000 < y) = false) (h4 : decide (x < -1073741824) = false) (h5 : decide (1073741824 < x) = false) (h6 : hh = false → (x != 0) = false) (h7 : mm = false → hh = false) : RightV (y, mm, hh, x) := by
  simp only [decide_eq_false_iff_not] at h1 h2 h4 h5
  exact ⟨by show -1 ≤ y; omega, by show y ≤ 1000000; omega, by show -1073741824 ≤ x; omega, by show x ≤ 1073741824; omega, fun h => by simpa using h6 h, h7⟩
theorem rightV_not {y x : Int} {mm hh : Bool} (hv : RightV (y, mm, hh, x)) : decide (y < -1) = false ∧ decide (1000000 < y) = false ∧ decide (x < -1073741824) = false ∧ decide (1073741824 < x) = false ∧ (hh = false → (x != 0) = false) ∧ (hh = true → mm = true) := by
  have a1 : -1 ≤ y := hv.lo
  have a2 : y ≤ 1000000 := hv.hi
  have a3 : -1073741824 ≤ x := hv.nlo
  have a4 : x ≤ 1073741824 := hv.nhi
  refine ⟨by simp; omega, by simp; omega, by simp; omega, by simp; omega, fun h => by have : x = 0 := hv.zero h; simp [this], fun h => ?_⟩
  cases mm with
  | true => rfl
  | false => have : hh = false := hv.made rfl; rw [this] at h; cases h


/-- A test's answer: false just where p is so. -/
def Fails (b : Bool) (p : Prop) : Prop := b = false ↔ p
/-- What is right ahead of a chain's versions. -/
def HeadOk (L : List Chn) (i : Nat) : Prop := keyB (L.getD i default).1 = true ∧ (0 < i → less (L.getD (i - 1) default).1 (L.getD i default).1 = true) ∧ (L.getD i default).2 ≠ []

end Go.Proofs.Ytdnafpenljdinad
