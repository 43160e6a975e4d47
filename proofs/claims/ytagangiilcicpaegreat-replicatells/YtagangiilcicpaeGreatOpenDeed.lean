/-
  What the program finds wrong with a deed.
  What the program finds wrong with an instruction of a deed.
  What the program finds wrong with a deed as a whole.
  How an argument that is a deed is read: its three slices lie there.
-/
import Derived.Test.YtagangiilcicpaeGreatDeedKeys
import Derived.Test.YtagangiilcicpaeGreatLies
import Derived.SliceStrings
import Derived.Lib.SmallJoins
namespace Go.Proofs.YtagangiilcicpaeGreat
open Go.RowKit

/-- An instruction's cells. -/
def insVal (i : Ins) : List Value := [.int .i64 i.kind, .int .i64 i.a, .int .i64 i.b, .int .i64 i.n, .string i.key]
def insCells : List Ins → List Value
  | [] => []
  | i :: l => insVal i ++ insCells l
theorem insCells_length : ∀ l, (insCells l).length = l.length * 5
  | [] => rfl
  | i :: l => by simp [insCells, insVal, insCells_length l]; omega
theorem insCells_one : ∀ l, ∀ u ∈ insCells l, u.oneCell' = true
  | [], _, h => by cases h
  | i :: l, u, h => by
    simp only [insCells, insVal, List.cons_append, List.nil_append, List.mem_cons] at h
    rcases h with rfl | rfl | rfl | rfl | rfl | h
    · rfl
    · rfl
    · rfl
    · rfl
    · rfl
    · exact insCells_one l u h
theorem insCells_at : ∀ (l : List Ins) (k : Nat), k < l.length → ∀ j u, (insVal (l.getD k default))[j]? = some u → (insCells l)[k * 5 + j]? = some u
  | [], k, h => absurd h (Nat.not_lt_zero _)
  | x :: l, 0, _ => fun j u hu => by
    rw [insCells, List.getElem?_append_left]
    · simpa using hu
    · simpa using (List.getElem?_eq_some_iff.1 hu).1
  | x :: l, k + 1, h => fun j u hu => by
    have := insCells_at l k (by simpa using h) j u (by simpa using hu)
    rw [insCells, List.getElem?_append_right (by simp [insVal]; omega)]
    simp only [insVal, List.length_cons, List.length_nil]
    rw [show (k + 1) * 5 + j - (0 + 1 + 1 + 1 + 1 + 1) = k * 5 + j from by omega]
    exact this
abbrev Codes (w : World) (base : Option Addr) (n c : Nat) (l : List Ins) : Prop := Lies w 5 base n c (insCells l)
theorem Codes.count {w : World} {base : Option Addr} {n c : Nat} {l : List Ins} (h : Codes w base n c l) : n = l.length := by have := h.len; rw [insCells_length] at this; omega
theorem Codes.cells {w : World} {b o : Nat} {l : List Ins} (h : Run w b o (insCells l)) {k : Nat} (hk : k < l.length) :
    w.cell? ⟨b, o + k * 5, none⟩ = some (.int .i64 (l.getD k default).kind) ∧ w.cell? ⟨b, o + k * 5 + 1, none⟩ = some (.int .i64 (l.getD k default).a) ∧ w.cell? ⟨b, o + k * 5 + 2, none⟩ = some (.int .i64 (l.getD k default).b) ∧
    w.cell? ⟨b, o + k * 5 + 3, none⟩ = some (.int .i64 (l.getD k default).n) ∧ w.cell? ⟨b, o + k * 5 + 4, none⟩ = some (.string (l.getD k default).key) :=
  ⟨h _ _ (insCells_at l k hk 0 _ rfl), h _ _ (insCells_at l k hk 1 _ rfl), h _ _ (insCells_at l k hk 2 _ rfl), h _ _ (insCells_at l k hk 3 _ rfl), h _ _ (insCells_at l k hk 4 _ rfl)⟩

theorem registerFits_calls (n : Int) (h : Bool) (w : World) :
    Calls Tryz.prog 112 #[.int .i64 n, .bool h] w fun e w' => e = .returned (.bool (regFit n h)) ∧ w = w' := by
  cases h with
  | false =>
    go_enter Tryz.func112, Tryz.ntmps112
    go_wp2
    go_ret
    exact ⟨ret_bool (by simp [regFit]; rfl), rfl⟩
  | true =>
    go_enter Tryz.func112, Tryz.ntmps112
    go_wp2
    all_goals
      go_ret
      exact ⟨ret_bool (by simp [regFit]; omega), rfl⟩

theorem dec_false {a b : Int} (h : a ≠ b) : (a == b) = false := by simp [h]

set_option maxHeartbeats 1000000 in
theorem registersFit_calls (k a b n : Int) (s : ByteArray) (w : World) :
    Calls Tryz.prog 101 #[.agg #[.int .i64 k, .int .i64 a, .int .i64 b, .int .i64 n, .string s]] w fun e w' => e = .returned (.bool (regsFit (k, a, b, n, s))) ∧ Below w.heap.size w w' := by
  have main : ∀ (q7 x3 x4 x5 : Bool), (k != 7) = q7 → (k == 3) = x3 → (k == 4) = x4 → (k == 5) = x5 → Calls Tryz.prog 101 #[.agg #[.int .i64 k, .int .i64 a, .int .i64 b, .int .i64 n, .string s]] w fun e w' => e = .returned (.bool (regFit a q7 && regFit b (x3 || x4 || x5))) ∧ Below w.heap.size w w' := by
    intro q7 x3 x4 x5 h7 h3 h4 h5
    have HA := hid (fun W => registerFits_calls a q7 W)
    have HB := hid (fun W => registerFits_calls b (x3 || x4 || x5) W)
    generalize regFit a q7 = fa at *
    generalize regFit b (x3 || x4 || x5) = fb at *
    cases x3 <;> cases x4 <;> cases x5
    all_goals
      simp only [Bool.or_true, Bool.or_false] at HB
      go_enter Tryz.func101, Tryz.ntmps101
      go_wp2_with fail
      refine (HA.out _).mono ?_
      rintro e w' ⟨rfl, rfl⟩
      cases fa with
      | false =>
        go_wp2
        go_ret
        exact ⟨rfl, (Below.refl _ _).alloc (Nat.le_refl _) _⟩
      | true =>
        go_wp2_with fail
        refine (HB.out _).mono ?_
        rintro e w' ⟨rfl, rfl⟩
        go_wp2
        go_ret
        exact ⟨rfl, (Below.refl _ _).alloc (Nat.le_refl _) _⟩
  have hr : regsFit (k, a, b, n, s) = (regFit a (k != 7) && regFit b ((k == 3) || (k == 4) || (k == 5))) := rfl
  rw [hr]
  exact main _ _ _ _ rfl rfl rfl rfl

set_option maxHeartbeats 1000000 in
theorem numberFits_calls (k a b n behind : Int) (s : ByteArray) (w : World) :
    Calls Tryz.prog 102 #[.agg #[.int .i64 k, .int .i64 a, .int .i64 b, .int .i64 n, .string s], .int .i64 behind] w fun e w' => e = .returned (.bool (numFit (k, a, b, n, s) behind)) ∧ Below w.heap.size w w' := by
  by_cases h2 : k = 2
  · subst h2
    go_enter Tryz.func102, Tryz.ntmps102
    go_wp2
    all_goals
      go_ret
      exact ⟨ret_bool (by simp [numFit, Ins.n, Ins.kind]; omega), (Below.refl _ _).alloc (Nat.le_refl _) _⟩
  by_cases h8 : k = 8
  · subst h8
    go_enter Tryz.func102, Tryz.ntmps102
    go_wp2
    all_goals
      go_ret
      exact ⟨ret_bool (by simp [numFit, Ins.n, Ins.kind]; omega), (Below.refl _ _).alloc (Nat.le_refl _) _⟩
  · have e2 := dec_false h2
    have e8 := dec_false h8
    have HF : Hid (numFit (k, a, b, n, s) behind = (n == 0)) := by show _ = _; simp [numFit, Ins.n, Ins.kind, h2, h8]; rfl
    clear h2 h8
    go_enter Tryz.func102, Tryz.ntmps102
    go_wp2
    all_goals
      go_ret
      exact ⟨ret_bool HF.out.symm, (Below.refl _ _).alloc (Nat.le_refl _) _⟩
end Go.Proofs.YtagangiilcicpaeGreat

namespace Go.Proofs.YtagangiilcicpaeGreat
open Go.RowKit

/-- Where a deed's three slices lie, and what they hold. -/
structure DeedIn (w : World) (rb : Option Addr) (rn rc : Nat) (wb : Option Addr) (wn wc : Nat) (cb : Option Addr) (cn cc : Nat) (R W : List ByteArray) (C : List Ins) : Prop where
  tr : Texts w rb rn rc R
  tw : Texts w wb wn wc W
  cd : Codes w cb cn cc C
theorem DeedIn.below {w w' : World} {rb : Option Addr} {rn rc : Nat} {wb : Option Addr} {wn wc : Nat} {cb : Option Addr} {cn cc : Nat} {R W : List ByteArray} {C : List Ins} (h : DeedIn w rb rn rc wb wn wc cb cn cc R W C) (hb : Below w.heap.size w w') : DeedIn w' rb rn rc wb wn wc cb cn cc R W C :=
  ⟨h.tr.below (by decide) hb, h.tw.below (by decide) hb, h.cd.below (by decide) hb⟩
theorem below_deep {w w1 w2 : World} (h : Below w.heap.size w w1) (k : Below w1.heap.size w1 w2) : Below w.heap.size w w2 := h.trans (k.mono h.size)

theorem box_cell (w : World) (vs : Array Value) (t : TypeId) (j : Nat) (v : Value) (h : vs[j]? = some v) : (w.alloc (.cells vs t)).cell? ⟨w.heap.size, j, none⟩ = some v := by
  rw [World.cell?_alloc_at _ _ _ _ rfl]; exact h
theorem box_past {w : World} {b x : Nat} {v : Value} (o : Obj) (h : w.cell? ⟨b, x, none⟩ = some v) : (w.alloc o).cell? ⟨b, x, none⟩ = some v := cell_past o h
theorem kept_cell {w w' : World} {b x : Nat} {v : Value} (hb : Below w.heap.size w w') (h : w.cell? ⟨b, x, none⟩ = some v) : w'.cell? ⟨b, x, none⟩ = some v := by
  have := World.block_lt_of_cell? _ _ h
  rw [hb.cell (p := ⟨b, x, none⟩) this]; exact h

theorem size_nil {s : ByteArray} (h : s.size = 0) : s = ⟨#[]⟩ := by
  cases s with | mk d => simpa [ByteArray.size] using h
theorem size_ne {s : ByteArray} (h : s.size ≠ 0) : (s.toList == []) = false := by
  rw [ByteArray.toList_eq]
  cases s with | mk d => simpa [ByteArray.size] using h

theorem wIns_3 {R W : List ByteArray} {i : Ins} {b : Int} (h1 : 1 ≤ i.kind) (h2 : i.kind ≤ 9) (h : regsFit i = false ∨ numFit i b = false) : wIns R W i b = 3 := by
  unfold wIns; rw [if_neg (by omega), if_pos h]
theorem wIns_on {R W : List ByteArray} {i : Ins} {b : Int} (h1 : 1 ≤ i.kind) (h2 : i.kind ≤ 9) (hr : regsFit i = true) (hn : numFit i b = true) :
    wIns R W i b = if i.kind = 1 then noKey R i.key else if i.kind = 6 ∨ i.kind = 7 then noKey W i.key else if i.key.size = 0 then 0 else 2 := by
  unfold wIns; rw [if_neg (by omega), if_neg (by rw [hr, hn]; simp)]

set_option maxHeartbeats 2000000 in
theorem wrongInstr_calls (R W : List ByteArray) (C : List Ins) (rb : Option Addr) (rn rc : Nat) (wb : Option Addr) (wn wc : Nat) (cb : Option Addr) (cn cc : Nat) (k : Nat) (w : World) (hd : DeedIn w rb rn rc wb wn wc cb cn cc R W C) (hk : k < C.length) :
    Calls Tryz.prog 85 #[.agg #[.slice rb rn rc, .slice wb wn wc, .slice cb cn cc], .int .i64 k] w fun e w' => e = .returned (.int .i64 (wIns R W (C.getD k default) ((C.length : Int) - 1 - k))) ∧ Below w.heap.size w w' := by
  have hn := Codes.count hd.cd
  have hcm := Nat.le_trans hd.cd.hdr.le hd.cd.hdr.max
  unfold maxLen at hcm
  rcases hd.cd.run with h | ⟨b, o, rfl, h1⟩
  · omega
  have hbw : b < w.heap.size := h1.lt (by rw [insCells_length]; omega)
  obtain ⟨c0, c1, c2, c3, c4⟩ := Codes.cells h1 hk
  rw [← hn]
  have hkn : k < cn := by omega
  have hi : (k : Int) < (cn : Int) := by omega
  have HD := hid hd
  clear hd h1 hn hk
  rcases hx : C.getD k default with ⟨kd, a, bb, nn, s⟩
  rw [hx] at c0 c1 c2 c3 c4
  clear hx
  simp only [Ins.kind, Ins.a, Ins.b, Ins.n, Ins.key] at c0 c1 c2 c3 c4
  obtain ⟨q, hq⟩ : ∃ q, q = wIns R W (kd, a, bb, nn, s) ((cn : Int) - 1 - k) := ⟨_, rfl⟩
  rw [← hq]
  have HQ := hid hq
  clear hq
  by_cases hlo : kd < 1
  · have HE : Hid (q = 1) := by show _ = _; rw [HQ.out, wIns, if_pos (.inl hlo)]
    go_enter Tryz.func85, Tryz.ntmps85
    go_wp2
    go_ret
    exact ⟨ret_int HE.out.symm, (((Below.refl _ _).alloc (Nat.le_refl _) _).alloc (by simp) _)⟩
  by_cases hhi : 9 < kd
  · have HE : Hid (q = 1) := by show _ = _; rw [HQ.out, wIns, if_pos (.inr hhi)]
    go_enter Tryz.func85, Tryz.ntmps85
    go_wp2
    go_ret
    exact ⟨ret_int HE.out.symm, (((Below.refl _ _).alloc (Nat.le_refl _) _).alloc (by simp) _)⟩
  have HR := hid (fun W' => registersFit_calls kd a bb nn s W')
  have HN := hid (fun W' => numberFits_calls kd a bb nn ((cn : Int) - 1 - k) s W')
  have H3 := hid (wIns_3 (R := R) (W := W) (i := (kd, a, bb, nn, s)) (b := (cn : Int) - 1 - k) (by show 1 ≤ kd; omega) (by show kd ≤ 9; omega))
  have HO := hid (wIns_on (R := R) (W := W) (i := (kd, a, bb, nn, s)) (b := (cn : Int) - 1 - k) (by show 1 ≤ kd; omega) (by show kd ≤ 9; omega))
  rw [← HQ.out] at H3 HO
  generalize regsFit (kd, a, bb, nn, s) = rf at *
  generalize numFit (kd, a, bb, nn, s) ((cn : Int) - 1 - k) = nf at *
  have hlo' : decide (kd < 1) = false := by simpa using hlo
  have hhi' : decide (9 < kd) = false := by simpa using hhi
  have hwr : wrap64 ((cn : Int) - 1 - k) = (cn : Int) - 1 - k := by unfold wrap64; omega
  cases rf with
  | false =>
    go_enter Tryz.func85, Tryz.ntmps85
    go_wp2_with fail
    refine (HR.out _).mono ?_
    rintro e w1 ⟨rfl, hb1⟩
    go_wp2
    go_ret
    exact ⟨ret_int (H3.out (by simp)).symm, below_deep (((Below.refl _ _).alloc (Nat.le_refl _) _).alloc (by simp) _) hb1⟩
  | true =>
    go_enter Tryz.func85, Tryz.ntmps85
    go_wp2_with fail
    refine (HR.out _).mono ?_
    rintro e w1 ⟨rfl, hb1⟩
    have x0 := kept_cell hb1 (box_past _ (box_cell w _ 61 0 (.slice rb rn rc) rfl))
    have x1 := kept_cell hb1 (box_past _ (box_cell w _ 61 1 (.slice wb wn wc) rfl))
    have x2 := kept_cell hb1 (box_past _ (box_cell w _ 61 2 (.slice (some ⟨b, o, none⟩) cn cc) rfl))
    have y0 := kept_cell hb1 (box_cell (w.alloc _) _ 97 0 (.int .i64 kd) rfl)
    have y1 := kept_cell hb1 (box_cell (w.alloc _) _ 97 1 (.int .i64 a) rfl)
    have y2 := kept_cell hb1 (box_cell (w.alloc _) _ 97 2 (.int .i64 bb) rfl)
    have y3 := kept_cell hb1 (box_cell (w.alloc _) _ 97 3 (.int .i64 nn) rfl)
    have y4 := kept_cell hb1 (box_cell (w.alloc _) _ 97 4 (.string s) rfl)
    rw [World.size_alloc] at y0 y1 y2 y3 y4
    have HB1 := hid (below_deep (((Below.refl _ w).alloc (Nat.le_refl _) _).alloc (by simp) _) hb1)
    clear hb1
    go_wp2_with fail
    refine (HN.out _).mono ?_
    rintro e w2 ⟨rfl, hb2⟩
    have HB2 := hid (below_deep HB1.out hb2)
    cases nf with
    | false =>
      go_wp2
      go_ret
      exact ⟨ret_int (H3.out (by simp)).symm, HB2.out⟩
    | true =>
      have HV : Hid (q = if kd = 1 then noKey R s else if kd = 6 ∨ kd = 7 then noKey W s else if s.size = 0 then 0 else 2) := HO.out (by simp) (by simp)
      have u0 := kept_cell hb2 x0
      have u1 := kept_cell hb2 x1
      have v0 := kept_cell hb2 y0
      have v4 := kept_cell hb2 y4
      have HR' := hid (HD.out.below HB2.out).tr
      have HW' := hid (HD.out.below HB2.out).tw
      clear x0 x1 x2 y0 y1 y2 y3 y4 hb2 HR HN H3 HO HB1
      by_cases k1 : kd = 1
      · subst k1
        go_wp2_with fail
        refine (unnamed_calls R rb rn rc s w2 HR'.out).mono ?_
        rintro e w3 ⟨rfl, rfl⟩
        go_wp2
        go_ret
        exact ⟨ret_int (by rw [HV.out]; rfl), HB2.out⟩
      by_cases k6 : kd = 6
      · subst k6
        go_wp2_with fail
        refine (unnamed_calls W wb wn wc s w2 HW'.out).mono ?_
        rintro e w3 ⟨rfl, rfl⟩
        go_wp2
        go_ret
        exact ⟨ret_int (by rw [HV.out]; rfl), HB2.out⟩
      by_cases k7 : kd = 7
      · subst k7
        go_wp2_with fail
        refine (unnamed_calls W wb wn wc s w2 HW'.out).mono ?_
        rintro e w3 ⟨rfl, rfl⟩
        go_wp2
        go_ret
        exact ⟨ret_int (by rw [HV.out]; rfl), HB2.out⟩
      have e1 := dec_false k1
      have e6 := dec_false k6
      have e7 := dec_false k7
      have HV2 : Hid (q = if s.size = 0 then 0 else 2) := by
        show _ = _
        rw [HV.out, if_neg k1, if_neg (by omega)]
      clear HV k1 k6 k7
      by_cases hs : s.size = 0
      · have hs' := size_nil hs
        subst hs'
        clear hs
        go_wp2
        go_ret
        exact ⟨ret_int (by rw [HV2.out]; rfl), HB2.out⟩
      · have hne : (s.toList == []) = false := size_ne hs
        go_wp2
        go_ret
        exact ⟨ret_int (by rw [HV2.out, if_neg hs]), HB2.out⟩
end Go.Proofs.YtagangiilcicpaeGreat

namespace Go.Proofs.YtagangiilcicpaeGreat
open Go.RowKit

/-- Texts are no longer than a text may be. -/
def SmallT (l : List ByteArray) : Prop := ∀ x ∈ l, x.size ≤ maxLen

theorem ne_true {a b : Int} (h : a ≠ b) : (a != b) = true := by simp [h]
set_option maxHeartbeats 2000000 in
theorem wrongDeed_calls (R W : List ByteArray) (C : List Ins) (rb : Option Addr) (rn rc : Nat) (wb : Option Addr) (wn wc : Nat) (cb : Option Addr) (cn cc : Nat) (w : World) (hd : DeedIn w rb rn rc wb wn wc cb cn cc R W C) (hr : SmallT R) (hw : SmallT W) :
    Calls Tryz.prog 71 #[.agg #[.slice rb rn rc, .slice wb wn wc, .slice cb cn cc]] w fun e w' => e = .returned (.int .i64 (wDeed R W C)) ∧ Below w.heap.size w w' := by
  obtain ⟨A, hA⟩ : ∃ A, A = w.alloc (.cells #[.slice rb rn rc, .slice wb wn wc, .slice cb cn cc] 61) := ⟨_, rfl⟩
  have hb0 : Below w.heap.size w A := by rw [hA]; exact (Below.refl _ _).alloc (Nat.le_refl _) _
  have hdA := hd.below hb0
  have HR := hid (wrongKeys_calls R rb rn rc A hr hdA.tr)
  have HW := hid (wrongKeys_calls W wb wn wc A hw hdA.tw)
  have hn := Codes.count hd.cd
  have hcm := Nat.le_trans hd.cd.hdr.le hd.cd.hdr.max
  unfold maxLen at hcm
  have HQ : Hid (wDeed R W C = if wKeys R ≠ 0 then wKeys R else if wKeys W ≠ 0 then wKeys W else if 12 < C.length then 5 else wCode R W C C.length) := rfl
  generalize wDeed R W C = q at *
  generalize wKeys R = kr at *
  generalize wKeys W = kw at *
  have HN := hid hn
  have HD := hid hdA
  have HB0 := hid hb0
  clear hd hdA hn hr hw hb0
  by_cases h1 : kr ≠ 0
  · have HE : Hid (q = kr) := by show _ = _; rw [HQ.out, if_pos h1]
    have t1 := ne_true h1
    clear h1 HQ
    subst hA
    go_enter Tryz.func71, Tryz.ntmps71
    go_wp2_with fail
    refine HR.out.mono ?_
    rintro e w1 ⟨rfl, rfl⟩
    go_wp2
    go_ret
    exact ⟨ret_int HE.out.symm, HB0.out⟩
  have h1' : kr = 0 := by simpa using h1
  subst h1'
  by_cases h2 : kw ≠ 0
  · have HE : Hid (q = kw) := by show _ = _; rw [HQ.out, if_neg h1, if_pos h2]
    have t1 := ne_true h2
    clear h1 h2 HQ
    subst hA
    go_enter Tryz.func71, Tryz.ntmps71
    go_wp2_with fail
    refine HR.out.mono ?_
    rintro e w1 ⟨rfl, rfl⟩
    go_wp2_with fail
    refine HW.out.mono ?_
    rintro e w1 ⟨rfl, rfl⟩
    go_wp2
    go_ret
    exact ⟨ret_int HE.out.symm, HB0.out⟩
  have h2' : kw = 0 := by simpa using h2
  subst h2'
  by_cases h3 : 12 < cn
  · have HE : Hid (q = 5) := by show _ = _; rw [HQ.out, if_neg h1, if_neg h2, if_pos (by rw [← HN.out]; exact h3)]
    clear h1 h2 HQ
    subst hA
    go_enter Tryz.func71, Tryz.ntmps71
    go_wp2_with fail
    refine HR.out.mono ?_
    rintro e w1 ⟨rfl, rfl⟩
    go_wp2_with fail
    refine HW.out.mono ?_
    rintro e w1 ⟨rfl, rfl⟩
    go_wp2
    go_ret
    exact ⟨ret_int HE.out.symm, HB0.out⟩
  have HE : Hid (q = wCode R W C C.length) := by show _ = _; rw [HQ.out, if_neg h1, if_neg h2, if_neg (by rw [← HN.out]; exact h3)]
  clear h1 h2 HQ
  have z0 : A.cell? ⟨w.heap.size, 0, none⟩ = some (.slice rb rn rc) := by rw [hA]; exact box_cell _ _ _ _ _ rfl
  have z1 : A.cell? ⟨w.heap.size, 1, none⟩ = some (.slice wb wn wc) := by rw [hA]; exact box_cell _ _ _ _ _ rfl
  have z2 : A.cell? ⟨w.heap.size, 2, none⟩ = some (.slice cb cn cc) := by rw [hA]; exact box_cell _ _ _ _ _ rfl
  have HZ := hid (And.intro z0 (And.intro z1 z2))
  clear z0 z1 z2
  subst hA
  go_enter Tryz.func71, Tryz.ntmps71
  go_wp2_with fail
  refine HR.out.mono ?_
  rintro e w1 ⟨rfl, rfl⟩
  go_wp2_with fail
  refine HW.out.mono ?_
  rintro e w1 ⟨rfl, rfl⟩
  go_wp2_with fail
  go_loopw [26] (fun i wr => ∃ k : Nat, k ≤ cn ∧ i = .int .i64 k ∧ Hid (wCode R W C k = 0) ∧ Hid (Below (w.alloc (.cells #[.slice rb rn rc, .slice wb wn wc, .slice cb cn cc] 61)).heap.size (w.alloc (.cells #[.slice rb rn rc, .slice wb wn wc, .slice cb cn cc] 61)) wr)) (fun i _ => cn - (intOf i).toNat)
  case atStart => exact ⟨0, Nat.zero_le _, rfl, rfl, Below.refl _ _⟩
  case round =>
    obtain ⟨k, hk, rfl, HC, HB⟩ := hrel
    by_cases hlt : k < cn
    · have hkl : k < C.length := by rw [← HN.out]; exact hlt
      have hi : (k : Int) < (cn : Int) := by omega
      have HI := hid (wrongInstr_calls R W C rb rn rc wb wn wc cb cn cc k wr (HD.out.below HB.out) hkl)
      have z0 := kept_cell HB.out HZ.out.1
      have z1 := kept_cell HB.out HZ.out.2.1
      have z2 := kept_cell HB.out HZ.out.2.2
      have HX := hid (wCode_at hkl HC.out)
      have HY := hid (wCode_step (R := R) (W := W) (C := C) HC.out)
      rw [← HE.out] at HX
      generalize wIns R W (C.getD k default) ((C.length : Int) - 1 - k) = x at *
      by_cases hx : x = 0
      · subst hx
        go_wp2_with fail
        refine HI.out.mono ?_
        rintro e w2 ⟨rfl, hb2⟩
        go_wp2
        go_roundw
        case rel => exact ⟨k + 1, by omega, by go_num, HY.out (by simp), below_deep HB.out hb2⟩
        case measure => simp [intOf]; omega
      · have t1 := ne_true hx
        have HXX := hid (HX.out hx)
        clear hx
        go_wp2_with fail
        refine HI.out.mono ?_
        rintro e w2 ⟨rfl, hb2⟩
        go_wp2
        go_ret
        exact ⟨ret_int HXX.out.symm, below_deep HB0.out (below_deep HB.out hb2)⟩
    · obtain rfl : k = cn := by omega
      go_wp2
      go_ret
      exact ⟨ret_int (by rw [HE.out, ← HN.out, HC.out]), below_deep HB0.out HB.out⟩
end Go.Proofs.YtagangiilcicpaeGreat

namespace Go.Proofs.YtagangiilcicpaeGreat
open Go.ChangeShapes Go.WideShapes Go.ChangeAt Go.RowKit Go.Deep Go.Joins

theorem cellsDeed : Tryz.prog.cellsOf 61 = 3 := by kernel_rfl
theorem cellsInstr : Tryz.prog.cellsOf 97 = 5 := by kernel_rfl

/-- How a datum tells the room of a slice. -/
def Room {H : Type} (d : DataW H) (cap : Nat) : Prop := (d = .nil ∧ cap = 0) ∨ ∃ elems spare : List (DataW H), d = .slice elems spare ∧ elems.length + spare.length = cap

theorem open_texts {H : Type} {enc : TypeId × Value → H} {W : World} {v : Value} {fuel : Nat} {y : DataW H × List MemPlace}
    (h : DataW.trod enc Tryz.prog W 0 (fun _ => true) true fuel 58 [v] = some y) :
    ∃ a len cap l, v = .slice a len cap ∧ Texts W a len cap l ∧ SmallT l ∧ Room y.1 cap := by
  rcases open_strings Tryz.underlying58 Tryz.underlying9 cellsStr h with ⟨hcs, hx⟩ | ⟨x, len, cap, ss, hcs, _, hl, hm, hss, hx, hcell, hsm⟩
  · simp at hcs
    subst hcs
    rw [hx]
    exact ⟨none, 0, 0, [], rfl, Lies.none _ _, (fun _ h => by cases h), .inl ⟨rfl, rfl⟩⟩
  · simp at hcs
    subst hcs
    simp only [if_true] at hss
    refine ⟨some x, len, cap, ss.take len, rfl, ?_, fun s hs => hsm s (List.mem_of_mem_take hs), ?_⟩
    · refine ⟨by rw [strs_length, List.length_take]; omega, ⟨hl, hm, fun h => by cases h⟩, ?_⟩
      by_cases h0 : len = 0
      · exact .inl h0
      · right
        obtain ⟨b, off, spot⟩ := x
        have hsp : spot = none := by simpa [Addr.add] using World.cell?_spot (hcell 0 (by omega))
        subst hsp
        refine ⟨b, off, rfl, fun j u hu => ?_⟩
        have hj : j < len := by
          have := (List.getElem?_eq_some_iff.1 hu).1
          rw [strs_length, List.length_take] at this; omega
        have h1 := hcell j (by omega)
        rw [Addr.add_lit] at h1
        rw [h1]
        have : (strs (ss.take len))[j]? = some (.string (ss.getD j ByteArray.empty)) := by
          simp [strs, hj, List.getD, show j < ss.length by omega]
        rw [this] at hu
        exact hu
    · rw [hx]
      refine .inr ⟨_, _, rfl, ?_⟩
      simp [Go.ChangeShapes.strs]; omega

set_option maxRecDepth 100000 in
theorem open_codes {H : Type} {enc : TypeId × Value → H} {W : World} {v : Value} {fuel : Nat} {y : DataW H × List MemPlace}
    (h : DataW.trod enc Tryz.prog W 0 (fun _ => true) true fuel 59 [v] = some y) :
    ∃ a len cap l, v = .slice a len cap ∧ Codes W a len cap l ∧ Room y.1 cap := by
  rcases open_slice Tryz.underlying59 h with ⟨hcs, hx⟩ | ⟨x, len, cap, m, n, D, Pl, hcs, _, hl, hm, hmm, hx, hcell⟩
  · simp at hcs
    subst hcs
    rw [hx]
    exact ⟨none, 0, 0, [], rfl, Lies.none _ _, .inl ⟨rfl, rfl⟩⟩
  · simp at hcs
    subst hcs
    simp only [if_true] at hmm
    subst hmm
    have hroom : Room y.1 m := by rw [hx]; exact .inr ⟨_, _, rfl, by simp; omega⟩
    have each : ∀ i, i < len → ∃ q : Ins, W.cell? (x.add (i * 5)) = some (.int .i64 q.kind) ∧ W.cell? (x.add (i * 5 + 1)) = some (.int .i64 q.a) ∧ W.cell? (x.add (i * 5 + 2)) = some (.int .i64 q.b) ∧ W.cell? (x.add (i * 5 + 3)) = some (.int .i64 q.n) ∧ W.cell? (x.add (i * 5 + 4)) = some (.string q.key) := by
      intro i hi
      obtain ⟨cs', h1, h2⟩ := hcell i (by omega)
      rw [cellsInstr] at h1
      obtain ⟨_, hlen, hc⟩ := World.cells?_some h1
      obtain ⟨xs, k, _, _, _, hxl, hf⟩ := DataW.trod_struct Tryz.underlying97 h2
      match cs', hlen, xs, hxl with
      | [v0, v1, v2, v3, v4], _, [y0, y1, y2, y3, y4], _ =>
        have g0 := hf 0 _ rfl
        have g1 := hf 1 _ rfl
        have g2 := hf 2 _ rfl
        have g3 := hf 3 _ rfl
        have g4 := hf 4 _ rfl
        simp [cellsInt, cellsStr] at g0 g1 g2 g3 g4
        have e0 := hc 0 (by omega)
        have e1 := hc 1 (by omega)
        have e2 := hc 2 (by omega)
        have e3 := hc 3 (by omega)
        have e4 := hc 4 (by omega)
        rw [add_add] at e0 e1 e2 e3 e4
        obtain ⟨q0, hq0, _, _⟩ := DataW.trod_int Tryz.underlying3 g0
        obtain ⟨q1, hq1, _, _⟩ := DataW.trod_int Tryz.underlying3 g1
        obtain ⟨q2, hq2, _, _⟩ := DataW.trod_int Tryz.underlying3 g2
        obtain ⟨q3, hq3, _, _⟩ := DataW.trod_int Tryz.underlying3 g3
        obtain ⟨q4, hq4, _, _⟩ := DataW.trod_string Tryz.underlying9 g4
        simp at hq0 hq1 hq2 hq3 hq4
        subst hq0 hq1 hq2 hq3 hq4
        exact ⟨(q0, q1, q2, q3, q4), by simpa using e0, by simpa using e1, by simpa using e2, by simpa using e3, by simpa using e4⟩
    obtain ⟨q, hq⟩ := choose_lt each
    have hget : ∀ i, i < len → ((List.range len).map q).getD i default = q i := fun i hi => by simp [List.getD, hi]
    refine ⟨some x, len, m, (List.range len).map q, rfl, ?_, hroom⟩
    refine ⟨by rw [insCells_length]; simp, ⟨hl, hm, fun h => by cases h⟩, ?_⟩
    by_cases h0 : len = 0
    · exact .inl h0
    right
    obtain ⟨b, off, spot⟩ := x
    have hsp : spot = none := by simpa [Addr.add] using World.cell?_spot (hq 0 (by omega)).1
    subst hsp
    refine ⟨b, off, rfl, fun j u hu => ?_⟩
    have hj : j < len * 5 := by
      have := (List.getElem?_eq_some_iff.1 hu).1
      rw [insCells_length] at this; simpa using this
    have hjl : j / 5 < len := by omega
    have hat := insCells_at ((List.range len).map q) (j / 5) (by simpa using hjl) (j % 5)
    rw [hget _ hjl, show j / 5 * 5 + j % 5 = j from by omega] at hat
    obtain ⟨r0, r1, r2, r3, r4⟩ := hq _ hjl
    rw [Addr.add_lit] at r0 r1 r2 r3 r4
    have hm5 : j % 5 = 0 ∨ j % 5 = 1 ∨ j % 5 = 2 ∨ j % 5 = 3 ∨ j % 5 = 4 := by omega
    rcases hm5 with e | e | e | e | e <;> rw [e] at hat
    · have h2 := hat _ rfl
      rw [hu] at h2
      rw [show off + j = off + j / 5 * 5 from by omega, r0]; exact h2.symm
    · have h2 := hat _ rfl
      rw [hu] at h2
      rw [show off + j = off + (j / 5 * 5 + 1) from by omega, r1]; exact h2.symm
    · have h2 := hat _ rfl
      rw [hu] at h2
      rw [show off + j = off + (j / 5 * 5 + 2) from by omega, r2]; exact h2.symm
    · have h2 := hat _ rfl
      rw [hu] at h2
      rw [show off + j = off + (j / 5 * 5 + 3) from by omega, r3]; exact h2.symm
    · have h2 := hat _ rfl
      rw [hu] at h2
      rw [show off + j = off + (j / 5 * 5 + 4) from by omega, r4]; exact h2.symm

end Go.Proofs.YtagangiilcicpaeGreat
