/-
  Of and Rows of the program: chains of rows, and what keys have ahead of a deed.
  The document's own RightChains, walked.
  The document's own Before and RowsAt, walked.
-/
import Derived.Test.YtdnafpenljdinadDoorChainOld
import Derived.Test.YtdnafpenljdinadDoorChainAt
import Derived.Deep.DeepCutAuto
namespace Go.Proofs.YtdnafpenljdinadDoor
open Go.RowKit

/-- How rows are told, if they are. -/
def RowsTold (w w' : World) (o : Option (List Row)) (e : Ending) : Prop := ∃ (b : Option Addr) (n c : Nat) (ok : Bool), e = .returned (.tuple #[.slice b n c, .bool ok]) ∧ ok = o.isSome ∧ Holds w' b n c (o.getD []) ∧ Below w.heap.size w w'
theorem rowCells_snoc (l : List Row) (x : Row) : rowCells (l ++ [x]) = rowCells l ++ [.string x.1, .int .i64 x.2] := by rw [rowCells_append]; rfl

set_option maxHeartbeats 2000000 in
set_option maxRecDepth 100000 in
theorem rowsC_calls (L : List Chn) (base : Option Addr) (n c : Nat) (by_ : Int) (w : World) (hf : FitC L) (ha : ChainsIn w base n c L) :
    Calls Tryd.prog 26 #[.slice base n c, .int .i64 by_] w fun e w' => RowsTold w w' (rowsC L by_) e := by
  have hcn : n ≤ 387420489 := by rw [ha.len]; exact hf.count
  have HA := hid ha
  have HLN := hid ha.len
  have HF := hid hf
  clear ha hf
  go_enter Tryd.func26, Tryd.ntmps26
  go_wp2
  go_loopw [6, 12] (fun v i wr => ∃ (j r : Nat) (R : List Row), j ≤ n ∧ r ≤ j ∧ i = .int .i64 j ∧ Hid (wr.ownsRow w.heap.size 47 2 v r (rowCells R)) ∧ Hid (rowsGo L by_ (L.take j) = some R) ∧ Hid (Below w.heap.size w wr)) (fun _ i _ => n - (intOf i).toNat)
  case atStart => exact ⟨0, 0, [], Nat.zero_le _, Nat.le_refl _, rfl, World.ownsRow_nil _ _ _ _, rfl, Below.refl _ _⟩
  case round =>
    obtain ⟨j, r, R, hj, hrj, rfl, HO, HR, HBR⟩ := hrel
    by_cases hlt : j < n
    · have hjl : j < L.length := by rw [← HLN.out]; exact hlt
      have hi : (j : Int) < (n : Int) := by omega
      rcases (HA.out.below HBR.out).run with h | ⟨b, o, rfl, hrun⟩
      · omega
      obtain ⟨vb, vn, vc, c0, c1, hvv, hkz⟩ := hrun j hlt
      have hbw : b < wr.heap.size := by simpa using World.block_lt_of_cell? _ _ c0
      have hfew := HF.out.few _ (memC hjl)
      have HRI := hid (HF.out.rise _ (memC hjl))
      have HBO := hid (before_own HF.out.srt (memC hjl) by_)
      have HSN := hid (rowsGo_snoc L by_ (L.getD j default) HR.out)
      rw [← take_snoc_getD hjl] at HSN
      have HST := hid (rowsGo_stop L by_ (memC hjl))
      rcases hx : L.getD j default with ⟨key, vs⟩
      rw [hx] at c0 hvv hfew HRI HBO HSN HST
      simp only at c0 hvv hfew HRI HBO HSN HST
      clear hx hrun
      have hvn := Vers.count hvv
      have HGW := hid (grew wr (.cells #[.string key, .slice vb vn vc] 59))
      have HLB := hid (lastBelow_calls vs vb vn vc by_ _ (by omega) HRI.out (hvv.below (by decide) HGW.out))
      rw [← HBO.out] at HLB
      clear hvv hkz hvn HBO HRI
      generalize before L key by_ = q at *
      go_wp2_with fail
      refine HLB.out.mono ?_
      rintro e w1 ⟨y, m, h, x, rfl, rfl, hb1⟩
      simp only [Ver.made, Ver.has_, Ver.n] at HSN HST
      have k0 := kept_cell hb1 (box_cell wr #[.string key, .slice vb vn vc] 59 0 _ rfl)
      have hwl : wr.heap.size < w1.heap.size := by simpa using World.block_lt_of_cell? _ _ k0
      have HB1 := hid (below_deep HGW.out hb1)
      have HB2 := hid (below_deep HB1.out (grew w1 (.cells #[.int .i64 y, .bool m, .bool h, .int .i64 x] 68)))
      clear hb1 HLB
      cases m with
      | false =>
        have HNO : Hid (rowsC L by_ = none) := HST.out (by simp)
        go_wp2
        go_ret2
        exact ⟨_, _, _, _, rfl, by rw [HNO.out]; rfl, by rw [HNO.out]; exact Holds.empty _ rfl rfl ⟨Nat.le_refl _, Nat.zero_le _, fun _ => rfl⟩, below_deep HBR.out HB2.out⟩
      | true =>
        cases h with
        | false =>
          have HNX : Hid (rowsGo L by_ (L.take (j + 1)) = some R) := by show _ = _; rw [HSN.out]; rfl
          go_wp2
          go_roundw
          case rel => exact ⟨j + 1, r, R, by omega, by omega, by go_num, owns_keep HO.out HB2.out, HNX, below_deep HBR.out HB2.out⟩
          case measure => simp [intOf]; omega
        | true =>
          have HNX : Hid (rowsGo L by_ (L.take (j + 1)) = some (R ++ [(key, x)])) := by show _ = _; rw [HSN.out]; rfl
          have HLO := hid (lies_one (w1.alloc (.cells #[.int .i64 y, .bool true, .bool true, .int .i64 x] 68)) #[.string key, .int .i64 x] 47 2 rfl)
          rw [World.size_alloc] at HLO
          have HOW := hid ((owns_keep HO.out HB2.out).alloc (.cells #[.string key, .int .i64 x] 47))
          have HSE := hid (rowCells_one [(key, x)])
          have HBY : Hid ((r + 1) * 24 ≤ 140737488355328) := by show _ ≤ _; omega
          have HSZ := hid (le_box (o := .cells #[.string key, .int .i64 x] 47) (Nat.le_trans HBR.out.size HB2.out.size))
          go_wp2_with (at_builtin; refine wpList_onto _ rfl _ _ 23 47 2 24 _ Tryd.underlying23 pairInfo rfl (by decide) (by decide) rfl w.heap.size _ r (rowCells R) rfl HOW.out _ 1 _ _ rfl HLO.out HSE.out HBY.out HSZ.out ?_)
          intro v3 w3 hown3 hg3
          have HO3 : Hid (w3.ownsRow w.heap.size 47 2 v3 (r + 1) (rowCells (R ++ [(key, x)]))) := by
            show World.ownsRow _ _ _ _ _ _ _
            rw [rowCells_snoc]; exact hown3
          have HB3 := hid (((below_deep HBR.out HB2.out).alloc (Nat.le_trans HBR.out.size HB2.out.size) (.cells #[.string key, .int .i64 x] 47)).grown hg3 HSZ.out (fun a ha => (HO.out.lt a ha).1))
          clear hown3 hg3
          go_wp2
          go_roundw
          case rel => exact ⟨j + 1, r + 1, _, by omega, by omega, by go_num, HO3, HNX, HB3⟩
          case measure => simp [intOf]; omega
    · obtain rfl : j = n := by omega
      have HR3 : Hid (rowsC L by_ = some R) := by
        have := HR.out
        rw [List.take_of_length_le (by rw [← HLN.out]; exact Nat.le_refl _)] at this
        exact this
      obtain ⟨b2, c2, rfl, hho⟩ := holds_of_owned HO.out
      have HH := hid hho
      clear hho
      go_wp2
      go_ret2
      exact ⟨_, _, _, _, rfl, by rw [HR3.out]; rfl, by rw [HR3.out]; exact HH.out, HBR.out⟩
end Go.Proofs.YtdnafpenljdinadDoor

namespace Go.Proofs.YtdnafpenljdinadDoor
open Go.RowKit

/-- A version is right, and behind the one ahead of it. -/
def RightVAt (l : List Ver) (k : Nat) : Prop := RightV (l.getD k default) ∧ (0 < k → (l.getD (k - 1) default).by_ < (l.getD k default).by_)
def RightCAt (L : List Chn) (i : Nat) : Prop := keyB (L.getD i default).1 = true ∧ (0 < i → less (L.getD (i - 1) default).1 (L.getD i default).1 = true) ∧ (L.getD i default).2 ≠ [] ∧ ∀ k, k < (L.getD i default).2.length → RightVAt (L.getD i default).2 k
theorem memD {α : Type} [Inhabited α] {l : List α} {i : Nat} (h : i < l.length) : l.getD i default ∈ l := by simp [List.getD, h]
theorem mem_at {α : Type} [Inhabited α] {l : List α} {x : α} (h : x ∈ l) : ∃ i, i < l.length ∧ l.getD i default = x := by
  obtain ⟨i, hi, rfl⟩ := List.getElem_of_mem h
  exact ⟨i, hi, by simp [List.getD, hi]⟩
theorem rise_of {l : List Ver} (h : ∀ k, k < l.length → RightVAt l k) : Rise l := by
  unfold Rise
  rw [List.pairwise_iff_getElem]
  have key : ∀ d i (hi : i < l.length) (hj : i + d + 1 < l.length), l[i].by_ < l[i + d + 1].by_ := by
    intro d
    induction d with
    | zero =>
      intro i hi hj
      have := (h (i + 1) hj).2 (by omega)
      simpa [List.getD, hi, hj] using this
    | succ d ih =>
      intro i hi hj
      have h1 := ih i hi (by omega)
      have h2 := (h (i + (d + 1) + 1) hj).2 (by omega)
      have h3 : i + d + 1 < l.length := by omega
      simp only [Nat.add_sub_cancel] at h2
      rw [show i + (d + 1) = i + d + 1 from by omega] at h2
      simp only [List.getD, List.getElem?_eq_getElem h3, List.getElem?_eq_getElem (show i + d + 1 + 1 < l.length by omega), Option.getD_some] at h2
      exact Int.lt_trans h1 h2
  intro i j hi hj hij
  obtain ⟨d, rfl⟩ : ∃ d, j = i + d + 1 := ⟨j - i - 1, by omega⟩
  exact key d i hi hj
theorem srtC_of {L : List Chn} (h : ∀ i, i < L.length → RightCAt L i) : SrtC L := by
  unfold SrtC
  rw [List.pairwise_iff_getElem]
  have key : ∀ d i (hi : i < L.length) (hj : i + d + 1 < L.length), less L[i].1 L[i + d + 1].1 = true := by
    intro d
    induction d with
    | zero =>
      intro i hi hj
      have := (h (i + 1) hj).2.1 (by omega)
      simpa [List.getD, hi, hj] using this
    | succ d ih =>
      intro i hi hj
      have h1 := ih i hi (by omega)
      have h2 := (h (i + (d + 1) + 1) hj).2.1 (by omega)
      have h3 : i + d + 1 < L.length := by omega
      simp only [Nat.add_sub_cancel] at h2
      rw [show i + (d + 1) = i + d + 1 from by omega] at h2
      simp only [List.getD, List.getElem?_eq_getElem h3, List.getElem?_eq_getElem (show i + d + 1 + 1 < L.length by omega), Option.getD_some] at h2
      exact less_trans h1 h2
  intro i j hi hj hij
  obtain ⟨d, rfl⟩ : ∃ d, j = i + d + 1 := ⟨j - i - 1, by omega⟩
  exact key d i hi hj
theorem rightC_of {L : List Chn} (h : ∀ i, i < L.length → RightCAt L i) : RightC L := by
  refine ⟨srtC_of h, fun c hc => ?_, fun c hc => ?_, fun c hc => ?_, fun c hc v hv => ?_⟩
  · obtain ⟨i, hi, rfl⟩ := mem_at hc; exact (h i hi).1
  · obtain ⟨i, hi, rfl⟩ := mem_at hc; exact (h i hi).2.2.1
  · obtain ⟨i, hi, rfl⟩ := mem_at hc; exact rise_of (h i hi).2.2.2
  · obtain ⟨i, hi, rfl⟩ := mem_at hc
    obtain ⟨k, hk, rfl⟩ := mem_at hv
    exact ((h i hi).2.2.2 k hk).1
theorem rightC_at {L : List Chn} (h : RightC L) {i : Nat} (hi : i < L.length) : RightCAt L i := by
  have hm := memC hi
  refine ⟨h.key _ hm, fun h0 => srtC_lt h.srt (by omega) hi, h.some_ _ hm, fun k hk => ⟨h.ver _ hm _ (memD hk), fun h0 => rise_lt (h.rise _ hm) (by omega) hk⟩⟩
/-- What is first wrong with a version. -/
theorem ver_parts (y x : Int) (mm hh pr : Bool) :
    decide (y < -1) = true ∨ (decide (y < -1) = false ∧ decide (1000000 < y) = true) ∨ (decide (y < -1) = false ∧ decide (1000000 < y) = false ∧ pr = true) ∨
    (decide (y < -1) = false ∧ decide (1000000 < y) = false ∧ pr = false ∧ decide (x < -1073741824) = true) ∨
    (decide (y < -1) = false ∧ decide (1000000 < y) = false ∧ pr = false ∧ decide (x < -1073741824) = false ∧ decide (1073741824 < x) = true) ∨
    (decide (y < -1) = false ∧ decide (1000000 < y) = false ∧ pr = false ∧ decide (x < -1073741824) = false ∧ decide (1073741824 < x) = false ∧ hh = false ∧ (x != 0) = true) ∨
    (decide (y < -1) = false ∧ decide (1000000 < y) = false ∧ pr = false ∧ decide (x < -1073741824) = false ∧ decide (1073741824 < x) = false ∧ hh = true ∧ mm = false) ∨
    (decide (y < -1) = false ∧ decide (1000000 < y) = false ∧ pr = false ∧ decide (x < -1073741824) = false ∧ decide (1073741824 < x) = false ∧ hh = false ∧ (x != 0) = false ∧ mm = false) ∨
    (decide (y < -1) = false ∧ decide (1000000 < y) = false ∧ pr = false ∧ decide (x < -1073741824) = false ∧ decide (1073741824 < x) = false ∧ hh = false ∧ (x != 0) = false ∧ mm = true) ∨
    (decide (y < -1) = false ∧ decide (1000000 < y) = false ∧ pr = false ∧ decide (x < -1073741824) = false ∧ decide (1073741824 < x) = false ∧ hh = true ∧ mm = true) := by
  cases decide (y < -1) <;> cases decide (1000000 < y) <;> cases pr <;> cases decide (x < -1073741824) <;> cases decide (1073741824 < x) <;> cases hh <;> cases (x != 0) <;> cases mm <;> simp

theorem rightV_of {y x : Int} {mm hh : Bool} (h1 : decide (y < -1) = false) (h2 : decide (1000000 < y) = false) (h4 : decide (x < -1073741824) = false) (h5 : decide (1073741824 < x) = false) (h6 : hh = false → (x != 0) = false) (h7 : mm = false → hh = false) : RightV (y, mm, hh, x) := by
  simp only [decide_eq_false_iff_not] at h1 h2 h4 h5
  exact ⟨by show -1 ≤ y; omega, by show y ≤ 1000000; omega, by show -1073741824 ≤ x; omega, by show x ≤ 1073741824; omega, fun h => by simpa using h6 h, h7⟩
theorem rightV_not {y x : Int} {mm hh : Bool} (hv : RightV (y, mm, hh, x)) : decide (y < -1) = false ∧ decide (1000000 < y) = false ∧ decide (x < -1073741824) = false ∧ decide (1073741824 < x) = false ∧ (hh = false → (x != 0) = false) ∧ (hh = true → mm = true) := by
  have a1 : -1 ≤ y := hv.lo
  have a2 : y ≤ 1000000 := hv.hi
  have a3 : -1073741824 ≤ x := hv.nlo
  have a4 : x ≤ 1073741824 := hv.nhi
  refine ⟨by simp; omega, by simp; omega, by simp; omega, by simp; omega, fun h => by have : x = 0 := hv.zero h; simp [this], fun h => ?_⟩
  cases mm with
  | true => rfl
  | false => have : hh = false := hv.made rfl; rw [this] at h; cases h


/-- A test's answer: false just where p is so. -/
def Fails (b : Bool) (p : Prop) : Prop := b = false ↔ p
/-- What is right ahead of a chain's versions. -/
def HeadOk (L : List Chn) (i : Nat) : Prop := keyB (L.getD i default).1 = true ∧ (0 < i → less (L.getD (i - 1) default).1 (L.getD i default).1 = true) ∧ (L.getD i default).2 ≠ []

end Go.Proofs.YtdnafpenljdinadDoor

namespace Go.Proofs.YtdnafpenljdinadDoor
open Go.RowKit

theorem befC_snoc (k : ByteArray) (by_ : Int) (c : Chn) : ∀ (L : List Chn) (o : Ver), befC k by_ (L ++ [c]) o = if c.1 = k then befV by_ c.2 (befC k by_ L o) else befC k by_ L o
  | [], o => rfl
  | x :: L, o => by rw [List.cons_append, befC, befC, befC_snoc k by_ c L]
theorem befV_snoc (by_ : Int) (v : Ver) (l : List Ver) (o : Ver) : befV by_ (l ++ [v]) o = if v.by_ < by_ then v else befV by_ l o := by rw [befV_append]; rfl

/-- How the document's Before stands: what it has found so far, and its answer's place. -/
structure BefIs (w wr : World) (y : Int) (m h : Bool) (x : Int) : Prop where
  out : Four wr (w.heap.size + 1) y m h x
  ofr : Free4 wr (w.heap.size + 1)
  res : Four wr w.heap.size 0 false false 0
  rfr : Free4 wr w.heap.size
  bel : Below w.heap.size w wr
theorem BefIs.deep {w wr w' : World} {y : Int} {m h : Bool} {x : Int} (k : BefIs w wr y m h x) (hb : Below wr.heap.size wr w') : BefIs w w' y m h x :=
  ⟨k.out.below hb, k.ofr.below hb k.out.lt, k.res.below hb, k.rfr.below hb k.res.lt, below_deep k.bel hb⟩
theorem Free4.set {w : World} {b : Nat} (h : Free4 w b) (p : Addr) (u : Value) : Free4 (w.setCell p u) b :=
  ⟨by rw [World.frozen?_setCell]; exact h.f0, by rw [World.frozen?_setCell]; exact h.f1, by rw [World.frozen?_setCell]; exact h.f2, by rw [World.frozen?_setCell]; exact h.f3⟩
theorem Four.far {w : World} {b : Nat} {y : Int} {m h : Bool} {x : Int} (k : Four w b y m h x) {p : Addr} (hp : p.block ≠ b) (u : Value) : Four (w.setCell p u) b y m h x := by
  have e : ∀ j, (w.setCell p u).cell? ⟨b, j, none⟩ = w.cell? ⟨b, j, none⟩ := fun j => World.cell?_setCell_other _ _ _ _ (fun e => hp (by rw [e]))
  exact ⟨by rw [e]; exact k.c0, by rw [e]; exact k.c1, by rw [e]; exact k.c2, by rw [e]; exact k.c3⟩
/-- Another one is found. -/
theorem BefIs.put {w wr : World} {y : Int} {m h : Bool} {x : Int} (k : BefIs w wr y m h x) (y' : Int) (m' h' : Bool) (x' : Int) :
    BefIs w ((((wr.setCell ⟨w.heap.size + 1, 0, none⟩ (.int .i64 y')).setCell ⟨w.heap.size + 1, 1, none⟩ (.bool m')).setCell ⟨w.heap.size + 1, 2, none⟩ (.bool h')).setCell ⟨w.heap.size + 1, 3, none⟩ (.int .i64 x')) y' m' h' x' := by
  refine ⟨k.out.put _ _ _ _, (((k.ofr.set _ _).set _ _).set _ _).set _ _, ?_, (((k.rfr.set _ _).set _ _).set _ _).set _ _, four_below k.bel (by omega)⟩
  exact (((k.res.far (p := ⟨w.heap.size + 1, 0, none⟩) (by simp) _).far (p := ⟨w.heap.size + 1, 1, none⟩) (by simp) _).far (p := ⟨w.heap.size + 1, 2, none⟩) (by simp) _).far (p := ⟨w.heap.size + 1, 3, none⟩) (by simp) _
theorem far4 {w : World} {b c j : Nat} {u0 u1 u2 u3 v : Value} (hne : b ≠ c) (h : w.cell? ⟨c, j, none⟩ = some v) : ((((w.setCell ⟨b, 0, none⟩ u0).setCell ⟨b, 1, none⟩ u1).setCell ⟨b, 2, none⟩ u2).setCell ⟨b, 3, none⟩ u3).cell? ⟨c, j, none⟩ = some v := by
  rw [World.cell?_setCell_far _ _ _ _ hne, World.cell?_setCell_far _ _ _ _ hne, World.cell?_setCell_far _ _ _ _ hne, World.cell?_setCell_far _ _ _ _ hne]; exact h
theorem refBefore_results (tmps : Array Value) (b : Nat) (w : World) {y : Int} {m h : Bool} {x : Int} (h4 : tmps.getD 6 undef = .pointer (some ⟨b, 0, none⟩)) (k : Four w b y m h x) :
    (results Tryd.f32 tmps).run Tryd.prog w = .ok (.agg #[.int .i64 y, .bool m, .bool h, .int .i64 x]) w := by
  have h4' : tmps[6]?.getD undef = .pointer (some ⟨b, 0, none⟩) := by simpa using h4
  simp [results, Tryd.results32, go_sem, h4', k.c0, k.c1, k.c2, k.c3]

set_option maxHeartbeats 4000000 in
set_option maxRecDepth 100000 in
theorem refBefore_calls (L : List Chn) (base : Option Addr) (n c : Nat) (k : ByteArray) (by_ : Int) (w : World) (hs : SrtC L) (ha : ChainsIn w base n c L) :
    Calls Tryd.prog 32 #[.slice base n c, .string k, .int .i64 by_] w fun e w' => VerTold w w' (before L k by_) e := by
  have hdm := Nat.le_trans ha.hdr.le ha.hdr.max
  unfold maxLen at hdm
  have HA := hid ha
  have HLN := hid ha.len
  have HE : Hid (befC k by_ L ver0 = before L k by_) := befC_is ver0 hs
  clear ha hs
  have HST : Hid (BefIs w ((w.alloc (.cells #[.int .i64 0, .bool false, .bool false, .int .i64 0] 68)).alloc (.cells #[.int .i64 (-1), .bool true, .bool false, .int .i64 0] 68)) (-1) true false 0) := by
    have h1 := Four.box w 0 false false 0 68
    have h2 := Four.box (w.alloc (.cells #[.int .i64 0, .bool false, .bool false, .int .i64 0] 68)) (-1) true false 0 68
    have h3 := Free4.box (w.alloc (.cells #[.int .i64 0, .bool false, .bool false, .int .i64 0] 68)) #[.int .i64 (-1), .bool true, .bool false, .int .i64 0] 68
    rw [World.size_alloc] at h2 h3
    exact ⟨h2, h3, h1.below (grew _ _), (Free4.box w _ _).below (grew _ _) h1.lt, below_deep (grew _ _) (grew _ _)⟩
  go_enter Tryd.func32, Tryd.ntmps32
  go_wp2
  go_loopw [15] (fun i wr => ∃ (j : Nat) (y : Int) (m h : Bool) (x : Int), j ≤ n ∧ i = .int .i64 j ∧ Hid (befC k by_ (L.take j) ver0 = (y, m, h, x)) ∧ Hid (BefIs w wr y m h x)) (fun i _ => n - (intOf i).toNat)
  case atStart => exact ⟨0, -1, true, false, 0, Nat.zero_le _, rfl, rfl, HST⟩
  case round =>
    obtain ⟨j, y, m, h, x, hj, rfl, HV, HBI⟩ := hrel
    by_cases hlt : j < n
    · have hjl : j < L.length := by rw [← HLN.out]; exact hlt
      have hi : (j : Int) < (n : Int) := by omega
      rcases HA.out.run with hh | ⟨b, o, rfl, hrun⟩
      · omega
      obtain ⟨vb, vn, vc, c0w, c1w, hvv, hkz⟩ := hrun j hlt
      have c0 := kept_cell HBI.out.bel c0w
      have c1 := kept_cell HBI.out.bel c1w
      have hbw : b < wr.heap.size := by simpa using World.block_lt_of_cell? _ _ c0
      have hvm := Nat.le_trans hvv.hdr.le hvv.hdr.max
      unfold maxLen at hvm
      have HVC := hid (Vers.count hvv)
      obtain ⟨key, vs, hx⟩ : ∃ key vs, L.getD j default = (key, vs) := ⟨_, _, rfl⟩
      have HSN := hid (befC_snoc k by_ (L.getD j default) (L.take j) ver0)
      rw [← take_snoc_getD hjl] at HSN
      rw [hx] at c0 hvv HVC HSN
      simp only at c0 hvv HVC HSN
      rw [HV.out] at HSN
      have HVW := hid hvv
      clear hx hrun hvv hkz c0w c1w
      generalize wr = wa at *
      have HB0 := hid (HBI.out.deep (grew wa (.cells #[.string key, .slice vb vn vc] 59)))
      have HK0 := hid (box_cell wa #[.string key, .slice vb vn vc] 59 0 _ rfl)
      have hwl : w.heap.size + 1 < wa.heap.size := HBI.out.out.lt
      go_wp2
      go_loopw [22] (fun i wr => ∃ (t : Nat) (y' : Int) (m' h' : Bool) (x' : Int), t ≤ vn ∧ i = .int .i64 t ∧ Hid ((if key = k then befV by_ (vs.take t) (y, m, h, x) else (y, m, h, x)) = (y', m', h', x')) ∧ Hid (BefIs w wr y' m' h' x') ∧ Hid (wr.cell? ⟨wa.heap.size, 0, none⟩ = some (.string key))) (fun i _ => vn - (intOf i).toNat)
      case atStart => exact ⟨0, y, m, h, x, Nat.zero_le _, rfl, (by show _ = _; simp [befV]), HB0, HK0⟩
      case round =>
        obtain ⟨t, y', m', h', x', ht, rfl, HV2, HB2, HK2⟩ := hrel
        by_cases htn : t < vn
        · have htl : t < vs.length := by rw [← HVC.out]; exact htn
          have hti : (t : Int) < (vn : Int) := by omega
          rcases (HVW.out.below (by decide) HB2.out.bel).run with hh | ⟨b2, o2, rfl, hvr⟩
          · omega
          obtain ⟨v0, v1, v2, v3⟩ := Vers.cells hvr htl
          have hbv : b2 < wr.heap.size := by simpa using World.block_lt_of_cell? _ _ v0
          have x0 := HK2.out
          have hxl : wa.heap.size < wr.heap.size := by simpa using World.block_lt_of_cell? _ _ x0
          have HTK := hid (take_snoc_getD htl)
          obtain ⟨y3, m3, h3, x3, hx⟩ : ∃ y3 m3 h3 x3, vs.getD t default = (y3, m3, h3, x3) := ⟨_, _, _, _, rfl⟩
          rw [hx] at v0 v1 v2 v3 HTK
          simp only [Ver.by_, Ver.made, Ver.has_, Ver.n] at v0 v1 v2 v3
          clear hx hvr
          have HB3 := hid (HB2.out.deep (grew wr (.cells #[.int .i64 y3, .bool m3, .bool h3, .int .i64 x3] 68)))
          have HK3 := hid (box_past (.cells #[.int .i64 y3, .bool m3, .bool h3, .int .i64 x3] 68) HK2.out)
          by_cases he : key = k
          · have t1 : (key.toList == k.toList) = true := by rw [he]; simp
            by_cases hlo : y3 < by_
            · have d1 : decide (y3 < by_) = true := by simpa using hlo
              have HV4 : Hid ((if key = k then befV by_ (vs.take (t + 1)) (y, m, h, x) else (y, m, h, x)) = (y3, m3, h3, x3)) := by
                show _ = _
                rw [if_pos he, HTK.out, befV_snoc]
                exact if_pos hlo
              obtain ⟨g0, g1, g2, g3⟩ := HB2.out.out
              obtain ⟨f0, f1, f2, f3⟩ := HB2.out.ofr
              have hol : w.heap.size + 1 < wr.heap.size := by omega
              have HBP := hid ((HB2.out.put y3 m3 h3 x3).deep (grew _ (.cells #[.int .i64 y3, .bool m3, .bool h3, .int .i64 x3] 68)))
              have HKP := hid (box_past (.cells #[.int .i64 y3, .bool m3, .bool h3, .int .i64 x3] 68) (far4 (u0 := .int .i64 y3) (u1 := .bool m3) (u2 := .bool h3) (u3 := .int .i64 x3) (show w.heap.size + 1 ≠ wa.heap.size by omega) HK2.out))
              clear he hlo
              go_wp2
              go_roundw
              case rel => exact ⟨t + 1, y3, m3, h3, x3, by omega, by go_num, HV4, HBP, HKP⟩
              case measure => simp [intOf]; omega
            · have d1 : decide (y3 < by_) = false := by simpa using hlo
              have HV4 : Hid ((if key = k then befV by_ (vs.take (t + 1)) (y, m, h, x) else (y, m, h, x)) = (y', m', h', x')) := by
                have := HV2.out
                show _ = _
                rw [if_pos he] at this ⊢
                rw [HTK.out, befV_snoc, ← this]
                exact if_neg hlo
              clear he hlo
              go_wp2
              go_roundw
              case rel => exact ⟨t + 1, y', m', h', x', by omega, by go_num, HV4, HB3, HK3⟩
              case measure => simp [intOf]; omega
          · have t1 : (key.toList == k.toList) = false := by simpa using fun e => he (toList_inj e)
            have HV4 : Hid ((if key = k then befV by_ (vs.take (t + 1)) (y, m, h, x) else (y, m, h, x)) = (y', m', h', x')) := by
              have := HV2.out
              show _ = _
              rw [if_neg he] at this ⊢
              exact this
            clear he
            go_wp2
            go_roundw
            case rel => exact ⟨t + 1, y', m', h', x', by omega, by go_num, HV4, HB3, HK3⟩
            case measure => simp [intOf]; omega
        · obtain rfl : t = vn := by omega
          have HV5 : Hid (befC k by_ (L.take (j + 1)) ver0 = (y', m', h', x')) := by
            have := HV2.out
            rw [List.take_of_length_le (by rw [← HVC.out]; exact Nat.le_refl _)] at this
            show _ = _
            rw [HSN.out]; exact this
          go_wp2
          go_roundw
          case rel => exact ⟨j + 1, y', m', h', x', by omega, by go_num, HV5, HB2⟩
          case measure => simp [intOf]; omega
    · obtain rfl : j = n := by omega
      have HV3 : Hid (before L k by_ = (y, m, h, x)) := by
        have := HV.out
        rw [List.take_of_length_le (by rw [← HLN.out]; exact Nat.le_refl _)] at this
        show _ = _
        rw [← HE.out]; exact this
      obtain ⟨g0, g1, g2, g3⟩ := HBI.out.out
      obtain ⟨r0, r1, r2, r3⟩ := HBI.out.res
      obtain ⟨f0, f1, f2, f3⟩ := HBI.out.rfr
      have hol : w.heap.size + 1 < wr.heap.size := HBI.out.out.lt
      have hol2 : w.heap.size < wr.heap.size := by omega
      go_wp2
      (try simp only [Exit.inBlock, Exit.then])
      refine bodyPost_ret (refBefore_results _ w.heap.size _ rfl (HBI.out.res.put _ _ _ _)) rfl ?_
      exact ⟨_, _, _, _, HV3.out, rfl, four_below HBI.out.bel (Nat.le_refl _)⟩

set_option maxHeartbeats 2000000 in
set_option maxRecDepth 100000 in
theorem refRowsAt_calls (L : List Chn) (base : Option Addr) (n c : Nat) (by_ : Int) (w : World) (hf : FitC L) (ha : ChainsIn w base n c L) :
    Calls Tryd.prog 27 #[.slice base n c, .int .i64 by_] w fun e w' => RowsTold w w' (rowsC L by_) e := by
  have hcn : n ≤ 387420489 := by rw [ha.len]; exact hf.count
  have HA := hid ha
  have HLN := hid ha.len
  have HF := hid hf
  clear ha hf
  go_enter Tryd.func27, Tryd.ntmps27
  go_wp2
  go_loopw [6, 12] (fun v i wr => ∃ (j r : Nat) (R : List Row), j ≤ n ∧ r ≤ j ∧ i = .int .i64 j ∧ Hid (wr.ownsRow w.heap.size 47 2 v r (rowCells R)) ∧ Hid (rowsGo L by_ (L.take j) = some R) ∧ Hid (Below w.heap.size w wr)) (fun _ i _ => n - (intOf i).toNat)
  case atStart => exact ⟨0, 0, [], Nat.zero_le _, Nat.le_refl _, rfl, World.ownsRow_nil _ _ _ _, rfl, Below.refl _ _⟩
  case round =>
    obtain ⟨j, r, R, hj, hrj, rfl, HO, HR, HBR⟩ := hrel
    by_cases hlt : j < n
    · have hjl : j < L.length := by rw [← HLN.out]; exact hlt
      have hi : (j : Int) < (n : Int) := by omega
      have HAR := hid (HA.out.below HBR.out)
      rcases HAR.out.run with h | ⟨b, o, hbase, hrun⟩
      · omega
      obtain ⟨vb, vn, vc, c0, c1, hvv, hkz⟩ := hrun j hlt
      have hbw : b < wr.heap.size := by simpa using World.block_lt_of_cell? _ _ c0
      have HSN := hid (rowsGo_snoc L by_ (L.getD j default) HR.out)
      rw [← take_snoc_getD hjl] at HSN
      have HST := hid (rowsGo_stop L by_ (memC hjl))
      have HGW := hid (grew wr (.cells #[.string (L.getD j default).1, .slice vb vn vc] 59))
      have HLB := hid (refBefore_calls L base n c (L.getD j default).1 by_ _ HF.out.srt (HAR.out.below HGW.out))
      subst hbase
      obtain ⟨key, hkey⟩ : ∃ key, (L.getD j default).1 = key := ⟨_, rfl⟩
      rw [hkey] at c0 HSN HST HGW HLB
      clear hkey hrun hvv hkz
      generalize before L key by_ = q at *
      go_wp2_with fail
      refine HLB.out.mono ?_
      rintro e w1 ⟨y, m, h, x, rfl, rfl, hb1⟩
      simp only [Ver.made, Ver.has_, Ver.n] at HSN HST
      have k0 := kept_cell hb1 (box_cell wr #[.string key, .slice vb vn vc] 59 0 _ rfl)
      have hwl : wr.heap.size < w1.heap.size := by simpa using World.block_lt_of_cell? _ _ k0
      have HB1 := hid (below_deep HGW.out hb1)
      have HB2 := hid (below_deep HB1.out (grew w1 (.cells #[.int .i64 y, .bool m, .bool h, .int .i64 x] 68)))
      clear hb1 HLB
      cases m with
      | false =>
        have HNO : Hid (rowsC L by_ = none) := HST.out (by simp)
        go_wp2
        go_ret2
        exact ⟨_, _, _, _, rfl, by rw [HNO.out]; rfl, by rw [HNO.out]; exact Holds.empty _ rfl rfl ⟨Nat.le_refl _, Nat.zero_le _, fun _ => rfl⟩, below_deep HBR.out HB2.out⟩
      | true =>
        cases h with
        | false =>
          have HNX : Hid (rowsGo L by_ (L.take (j + 1)) = some R) := by show _ = _; rw [HSN.out]; rfl
          go_wp2
          go_roundw
          case rel => exact ⟨j + 1, r, R, by omega, by omega, by go_num, owns_keep HO.out HB2.out, HNX, below_deep HBR.out HB2.out⟩
          case measure => simp [intOf]; omega
        | true =>
          have HNX : Hid (rowsGo L by_ (L.take (j + 1)) = some (R ++ [(key, x)])) := by show _ = _; rw [HSN.out]; rfl
          have HLO := hid (lies_one (w1.alloc (.cells #[.int .i64 y, .bool true, .bool true, .int .i64 x] 68)) #[.string key, .int .i64 x] 47 2 rfl)
          rw [World.size_alloc] at HLO
          have HOW := hid ((owns_keep HO.out HB2.out).alloc (.cells #[.string key, .int .i64 x] 47))
          have HSE := hid (rowCells_one [(key, x)])
          have HBY : Hid ((r + 1) * 24 ≤ 140737488355328) := by show _ ≤ _; omega
          have HSZ := hid (le_box (o := .cells #[.string key, .int .i64 x] 47) (Nat.le_trans HBR.out.size HB2.out.size))
          go_wp2_with (at_builtin; refine wpList_onto _ rfl _ _ 23 47 2 24 _ Tryd.underlying23 pairInfo rfl (by decide) (by decide) rfl w.heap.size _ r (rowCells R) rfl HOW.out _ 1 _ _ rfl HLO.out HSE.out HBY.out HSZ.out ?_)
          intro v3 w3 hown3 hg3
          have HO3 : Hid (w3.ownsRow w.heap.size 47 2 v3 (r + 1) (rowCells (R ++ [(key, x)]))) := by
            show World.ownsRow _ _ _ _ _ _ _
            rw [rowCells_snoc]; exact hown3
          have HB3 := hid (((below_deep HBR.out HB2.out).alloc (Nat.le_trans HBR.out.size HB2.out.size) (.cells #[.string key, .int .i64 x] 47)).grown hg3 HSZ.out (fun a ha => (HO.out.lt a ha).1))
          clear hown3 hg3
          go_wp2
          go_roundw
          case rel => exact ⟨j + 1, r + 1, _, by omega, by omega, by go_num, HO3, HNX, HB3⟩
          case measure => simp [intOf]; omega
    · obtain rfl : j = n := by omega
      have HR3 : Hid (rowsC L by_ = some R) := by
        have := HR.out
        rw [List.take_of_length_le (by rw [← HLN.out]; exact Nat.le_refl _)] at this
        exact this
      obtain ⟨b2, c2, rfl, hho⟩ := holds_of_owned HO.out
      have HH := hid hho
      clear hho
      go_wp2
      go_ret2
      exact ⟨_, _, _, _, rfl, by rw [HR3.out]; rfl, by rw [HR3.out]; exact HH.out, HBR.out⟩
end Go.Proofs.YtdnafpenljdinadDoor
