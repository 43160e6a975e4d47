/-
  What the program finds wrong with a deed.
  What the program finds wrong with an instruction of a deed.
  What the program finds wrong with a deed as a whole.
  What the package-level variables hold that a deed's way to its text and back meets, and that whatever leaves old memory alone leaves them so.
  What a statement's list of package-level variables says of them is what the walks ask; and how a statement is lifted that lists variables and leans on the world's shape.
  What a statement's list of package-level variables says of those that numbers' texts meet.
  How an argument that is rows is read: some list of rows lies there, within the reach of the form.
-/
import Derived.Test.YtlhaeeenkgkdaaaGreatDoorDeedKeys
import Derived.Test.YtlhaeeenkgkdaaaGreatDoorAround
import Derived.Lib.LaidTab
import Derived.Lib.ItoaMem
import Derived.Test.YtlhaeeenkgkdaaaGreatDoorRows
import Derived.ProofKit
import Derived.OpenShut
import Derived.LaidMore
import Derived.Lay
import Derived.Stop.Joined
import Derived.Stop.LaidErr
import Derived.Shelf.Vars
import Derived.Handed
import Derived.Deep.SlicePairs
import Derived.SizedLaws
import Derived.Carry
namespace Go.Proofs.YtlhaeeenkgkdaaaGreatDoor
open Go.RowKit

def insVal (i : Ins) : List Value := [.int .i64 i.kind, .int .i64 i.a, .int .i64 i.b, .int .i64 i.n, .string i.key]
def insCells : List Ins → List Value
 | [] => []
 | i :: l => insVal i ++ insCells l
theorem insCells_length : ∀ l, (insCells l).length = l.length * 5
 | [] => rfl
 | i :: l => by simp [insCells, insVal, insCells_length l]; omega
theorem insCells_one : ∀ l, ∀ u ∈ insCells l, u.oneCell' = true
 | [], _, h => by cases h
 | i :: l, u, h => by
   simp only [insCells, insVal, List.cons_append, List.nil_append, List.mem_cons] at h
   rcases h with rfl | rfl | rfl | rfl | rfl | h
   · rfl
   · rfl
   · rfl
   · rfl
   · rfl
   · exact insCells_one l u h
theorem insCells_at : ∀ (l : List Ins) (k : Nat), k < l.length → ∀ j u, (insVal (l.getD k default))[j]? = some u → (insCells l)[k * 5 + j]? = some u
 | [], k, h => absurd h (Nat.not_lt_zero _)
 | x :: l, 0, _ => fun j u hu => by
   rw [insCells, List.getElem?_append_left]
   · simpa using hu
   · simpa using (List.getElem?_eq_some_iff.1 hu).1
 | x :: l, k + 1, h => fun j u hu => by
   have := insCells_at l k (by simpa using h) j u (by simpa using hu)
   rw [insCells, List.getElem?_append_right (by simp [insVal]; omega)]
   simp only [insVal, List.length_cons, List.length_nil]
   rw [show (k + 1) * 5 + j - (0 + 1 + 1 + 1 + 1 + 1) = k * 5 + j from by omega]
   exact this
abbrev Codes (w : World) (base : Option Addr) (n c : Nat) (l : List Ins) : Prop := Lies w 5 base n c (insCells l)
theorem Codes.count {w : World} {base : Option Addr} {n c : Nat} {l : List Ins} (h : Codes w base n c l) : n = l.length := by have := h.len; rw [insCells_length] at this; omega
theorem Codes.cells {w : World} {b o : Nat} {l : List Ins} (h : Run w b o (insCells l)) {k : Nat} (hk : k < l.length) :
   w.cell? ⟨b, o + k * 5, none⟩ = some (.int .i64 (l.getD k default).kind) ∧ w.cell? ⟨b, o + k * 5 + 1, none⟩ = some (.int .i64 (l.getD k default).a) ∧ w.cell? ⟨b, o + k * 5 + 2, none⟩ = some (.int .i64 (l.getD k default).b) ∧
   w.cell? ⟨b, o + k * 5 + 3, none⟩ = some (.int .i64 (l.getD k default).n) ∧ w.cell? ⟨b, o + k * 5 + 4, none⟩ = some (.string (l.getD k default).key) :=
 ⟨h _ _ (insCells_at l k hk 0 _ rfl), h _ _ (insCells_at l k hk 1 _ rfl), h _ _ (insCells_at l k hk 2 _ rfl), h _ _ (insCells_at l k hk 3 _ rfl), h _ _ (insCells_at l k hk 4 _ rfl)⟩

theorem registerFits_calls (n : Int) (h : Bool) (w : World) :
   Calls Tryz.prog 127 #[.int .i64 n, .bool h] w fun e w' => e = .returned (.bool (regFit n h)) ∧ w = w' := by
 cases h with
 | false =>
   go_enter Tryz.func127, Tryz.ntmps127
   go_wp2
   go_ret
   exact ⟨ret_bool (by simp [regFit]; rfl), rfl⟩
 | true =>
   go_enter Tryz.func127, Tryz.ntmps127
   go_wp2
   all_goals
     go_ret
     exact ⟨ret_bool (by simp [regFit]; omega), rfl⟩

theorem dec_false {a b : Int} (h : a ≠ b) : (a == b) = false := by simp [h]

set_option maxHeartbeats 1000000 in
theorem registersFit_calls (k a b n : Int) (s : ByteArray) (w : World) :
   Calls Tryz.prog 110 #[.agg #[.int .i64 k, .int .i64 a, .int .i64 b, .int .i64 n, .string s]] w fun e w' => e = .returned (.bool (regsFit (k, a, b, n, s))) ∧ Below w.heap.size w w' := by
 have main : ∀ (q7 x3 x4 x5 : Bool), (k != 7) = q7 → (k == 3) = x3 → (k == 4) = x4 → (k == 5) = x5 → Calls Tryz.prog 110 #[.agg #[.int .i64 k, .int .i64 a, .int .i64 b, .int .i64 n, .string s]] w fun e w' => e = .returned (.bool (regFit a q7 && regFit b (x3 || x4 || x5))) ∧ Below w.heap.size w w' := by
   intro q7 x3 x4 x5 h7 h3 h4 h5
   have HA := hid (fun W => registerFits_calls a q7 W)
   have HB := hid (fun W => registerFits_calls b (x3 || x4 || x5) W)
   generalize regFit a q7 = fa at *
   generalize regFit b (x3 || x4 || x5) = fb at *
   cases x3 <;> cases x4 <;> cases x5
   all_goals
     simp only [Bool.or_true, Bool.or_false] at HB
     go_enter Tryz.func110, Tryz.ntmps110
     go_wp2_with fail
     refine (HA.out _).mono ?_
     rintro e w' ⟨rfl, rfl⟩
     cases fa with
     | false =>
       go_wp2
       go_ret
       exact ⟨rfl, (Below.refl _ _).alloc (Nat.le_refl _) _⟩
     | true =>
       go_wp2_with fail
       refine (HB.out _).mono ?_
       rintro e w' ⟨rfl, rfl⟩
       go_wp2
       go_ret
       exact ⟨rfl, (Below.refl _ _).alloc (Nat.le_refl _) _⟩
 have hr : regsFit (k, a, b, n, s) = (regFit a (k != 7) && regFit b ((k == 3) || (k == 4) || (k == 5))) := rfl
 rw [hr]
 exact main _ _ _ _ rfl rfl rfl rfl

set_option maxHeartbeats 1000000 in
theorem numberFits_calls (k a b n behind : Int) (s : ByteArray) (w : World) :
   Calls Tryz.prog 111 #[.agg #[.int .i64 k, .int .i64 a, .int .i64 b, .int .i64 n, .string s], .int .i64 behind] w fun e w' => e = .returned (.bool (numFit (k, a, b, n, s) behind)) ∧ Below w.heap.size w w' := by
 by_cases h2 : k = 2
 · subst h2
   go_enter Tryz.func111, Tryz.ntmps111
   go_wp2
   all_goals
     go_ret
     exact ⟨ret_bool (by simp [numFit, Ins.n, Ins.kind]; omega), (Below.refl _ _).alloc (Nat.le_refl _) _⟩
 by_cases h8 : k = 8
 · subst h8
   go_enter Tryz.func111, Tryz.ntmps111
   go_wp2
   all_goals
     go_ret
     exact ⟨ret_bool (by simp [numFit, Ins.n, Ins.kind]; omega), (Below.refl _ _).alloc (Nat.le_refl _) _⟩
 · have e2 := dec_false h2
   have e8 := dec_false h8
   have HF : Hid (numFit (k, a, b, n, s) behind = (n == 0)) := by show _ = _; simp [numFit, Ins.n, Ins.kind, h2, h8]; rfl
   clear h2 h8
   go_enter Tryz.func111, Tryz.ntmps111
   go_wp2
   all_goals
     go_ret
     exact ⟨ret_bool HF.out.symm, (Below.refl _ _).alloc (Nat.le_refl _) _⟩
end Go.Proofs.YtlhaeeenkgkdaaaGreatDoor

namespace Go.Proofs.YtlhaeeenkgkdaaaGreatDoor
open Go.RowKit

structure DeedIn (w : World) (rb : Option Addr) (rn rc : Nat) (wb : Option Addr) (wn wc : Nat) (cb : Option Addr) (cn cc : Nat) (R W : List ByteArray) (C : List Ins) : Prop where
 tr : Texts w rb rn rc R
 tw : Texts w wb wn wc W
 cd : Codes w cb cn cc C
theorem DeedIn.below {w w' : World} {rb wb cb : Option Addr} {rn rc wn wc cn cc : Nat} {R W : List ByteArray} {C : List Ins} (h : DeedIn w rb rn rc wb wn wc cb cn cc R W C) (hb : Below w.heap.size w w') : DeedIn w' rb rn rc wb wn wc cb cn cc R W C :=
 ⟨h.tr.below (by decide) hb, h.tw.below (by decide) hb, h.cd.below (by decide) hb⟩
theorem below_deep {w w1 w2 : World} (h : Below w.heap.size w w1) (k : Below w1.heap.size w1 w2) : Below w.heap.size w w2 := h.trans (k.mono h.size)

theorem box_cell (w : World) (vs : Array Value) (t : TypeId) (j : Nat) (v : Value) (h : vs[j]? = some v) : (w.alloc (.cells vs t)).cell? ⟨w.heap.size, j, none⟩ = some v := by
 rw [World.cell?_alloc_at _ _ _ _ rfl]; exact h
theorem box_past {w : World} {b x : Nat} {v : Value} (o : Obj) (h : w.cell? ⟨b, x, none⟩ = some v) : (w.alloc o).cell? ⟨b, x, none⟩ = some v := cell_past o h
theorem kept_cell {w w' : World} {b x : Nat} {v : Value} (hb : Below w.heap.size w w') (h : w.cell? ⟨b, x, none⟩ = some v) : w'.cell? ⟨b, x, none⟩ = some v := by
 have := World.block_lt_of_cell? _ _ h
 rw [hb.cell (p := ⟨b, x, none⟩) this]; exact h

theorem size_nil {s : ByteArray} (h : s.size = 0) : s = ⟨#[]⟩ := by
 cases s with | mk d => simpa [ByteArray.size] using h
theorem size_ne {s : ByteArray} (h : s.size ≠ 0) : (s.toList == []) = false := by
 rw [ByteArray.toList_eq]
 cases s with | mk d => simpa [ByteArray.size] using h

theorem wIns_3 {R W : List ByteArray} {i : Ins} {b : Int} (h1 : 1 ≤ i.kind) (h2 : i.kind ≤ 9) (h : regsFit i = false ∨ numFit i b = false) : wIns R W i b = 3 := by
 unfold wIns; rw [if_neg (by omega), if_pos h]
theorem wIns_on {R W : List ByteArray} {i : Ins} {b : Int} (h1 : 1 ≤ i.kind) (h2 : i.kind ≤ 9) (hr : regsFit i = true) (hn : numFit i b = true) :
   wIns R W i b = if i.kind = 1 then noKey R i.key else if i.kind = 6 ∨ i.kind = 7 then noKey W i.key else if i.key.size = 0 then 0 else 2 := by
 unfold wIns; rw [if_neg (by omega), if_neg (by rw [hr, hn]; simp)]

set_option maxHeartbeats 2000000 in
theorem wrongInstr_calls (R W : List ByteArray) (C : List Ins) (rb : Option Addr) (rn rc : Nat) (wb : Option Addr) (wn wc : Nat) (cb : Option Addr) (cn cc : Nat) (k : Nat) (w : World) (hd : DeedIn w rb rn rc wb wn wc cb cn cc R W C) (hk : k < C.length) :
   Calls Tryz.prog 90 #[.agg #[.slice rb rn rc, .slice wb wn wc, .slice cb cn cc], .int .i64 k] w fun e w' => e = .returned (.int .i64 (wIns R W (C.getD k default) ((C.length : Int) - 1 - k))) ∧ Below w.heap.size w w' := by
 have hn := Codes.count hd.cd
 have hcm := Nat.le_trans hd.cd.hdr.le hd.cd.hdr.max
 unfold maxLen at hcm
 rcases hd.cd.run with h | ⟨b, o, rfl, h1⟩
 · omega
 have hbw : b < w.heap.size := h1.lt (by rw [insCells_length]; omega)
 obtain ⟨c0, c1, c2, c3, c4⟩ := Codes.cells h1 hk
 rw [← hn]
 have hkn : k < cn := by omega
 have hi : (k : Int) < (cn : Int) := by omega
 have HD := hid hd
 clear hd h1 hn hk
 rcases hx : C.getD k default with ⟨kd, a, bb, nn, s⟩
 rw [hx] at c0 c1 c2 c3 c4
 clear hx
 simp only [Ins.kind, Ins.a, Ins.b, Ins.n, Ins.key] at c0 c1 c2 c3 c4
 obtain ⟨q, hq⟩ : ∃ q, q = wIns R W (kd, a, bb, nn, s) ((cn : Int) - 1 - k) := ⟨_, rfl⟩
 rw [← hq]
 have HQ := hid hq
 clear hq
 by_cases hlo : kd < 1
 · have HE : Hid (q = 1) := by show _ = _; rw [HQ.out, wIns, if_pos (.inl hlo)]
   go_enter Tryz.func90, Tryz.ntmps90
   go_wp2
   go_ret
   exact ⟨ret_int HE.out.symm, (((Below.refl _ _).alloc (Nat.le_refl _) _).alloc (by simp) _)⟩
 by_cases hhi : 9 < kd
 · have HE : Hid (q = 1) := by show _ = _; rw [HQ.out, wIns, if_pos (.inr hhi)]
   go_enter Tryz.func90, Tryz.ntmps90
   go_wp2
   go_ret
   exact ⟨ret_int HE.out.symm, (((Below.refl _ _).alloc (Nat.le_refl _) _).alloc (by simp) _)⟩
 have HR := hid (fun W' => registersFit_calls kd a bb nn s W')
 have HN := hid (fun W' => numberFits_calls kd a bb nn ((cn : Int) - 1 - k) s W')
 have H3 := hid (wIns_3 (R := R) (W := W) (i := (kd, a, bb, nn, s)) (b := (cn : Int) - 1 - k) (by show 1 ≤ kd; omega) (by show kd ≤ 9; omega))
 have HO := hid (wIns_on (R := R) (W := W) (i := (kd, a, bb, nn, s)) (b := (cn : Int) - 1 - k) (by show 1 ≤ kd; omega) (by show kd ≤ 9; omega))
 rw [← HQ.out] at H3 HO
 generalize regsFit (kd, a, bb, nn, s) = rf at *
 generalize numFit (kd, a, bb, nn, s) ((cn : Int) - 1 - k) = nf at *
 have hlo' : decide (kd < 1) = false := by simpa using hlo
 have hhi' : decide (9 < kd) = false := by simpa using hhi
 have hwr : wrap64 ((cn : Int) - 1 - k) = (cn : Int) - 1 - k := by unfold wrap64; omega
 cases rf with
 | false =>
   go_enter Tryz.func90, Tryz.ntmps90
   go_wp2_with fail
   refine (HR.out _).mono ?_
   rintro e w1 ⟨rfl, hb1⟩
   go_wp2
   go_ret
   exact ⟨ret_int (H3.out (by simp)).symm, below_deep (((Below.refl _ _).alloc (Nat.le_refl _) _).alloc (by simp) _) hb1⟩
 | true =>
   go_enter Tryz.func90, Tryz.ntmps90
   go_wp2_with fail
   refine (HR.out _).mono ?_
   rintro e w1 ⟨rfl, hb1⟩
   have x0 := kept_cell hb1 (box_past _ (box_cell w _ 44 0 (.slice rb rn rc) rfl))
   have x1 := kept_cell hb1 (box_past _ (box_cell w _ 44 1 (.slice wb wn wc) rfl))
   have x2 := kept_cell hb1 (box_past _ (box_cell w _ 44 2 (.slice (some ⟨b, o, none⟩) cn cc) rfl))
   have y0 := kept_cell hb1 (box_cell (w.alloc _) _ 72 0 (.int .i64 kd) rfl)
   have y1 := kept_cell hb1 (box_cell (w.alloc _) _ 72 1 (.int .i64 a) rfl)
   have y2 := kept_cell hb1 (box_cell (w.alloc _) _ 72 2 (.int .i64 bb) rfl)
   have y3 := kept_cell hb1 (box_cell (w.alloc _) _ 72 3 (.int .i64 nn) rfl)
   have y4 := kept_cell hb1 (box_cell (w.alloc _) _ 72 4 (.string s) rfl)
   rw [World.size_alloc] at y0 y1 y2 y3 y4
   have HB1 := hid (below_deep (((Below.refl _ w).alloc (Nat.le_refl _) _).alloc (by simp) _) hb1)
   clear hb1
   go_wp2_with fail
   refine (HN.out _).mono ?_
   rintro e w2 ⟨rfl, hb2⟩
   have HB2 := hid (below_deep HB1.out hb2)
   cases nf with
   | false =>
     go_wp2
     go_ret
     exact ⟨ret_int (H3.out (by simp)).symm, HB2.out⟩
   | true =>
     have HV : Hid (q = if kd = 1 then noKey R s else if kd = 6 ∨ kd = 7 then noKey W s else if s.size = 0 then 0 else 2) := HO.out (by simp) (by simp)
     have u0 := kept_cell hb2 x0
     have u1 := kept_cell hb2 x1
     have v0 := kept_cell hb2 y0
     have v4 := kept_cell hb2 y4
     have HR' := hid (HD.out.below HB2.out).tr
     have HW' := hid (HD.out.below HB2.out).tw
     clear x0 x1 x2 y0 y1 y2 y3 y4 hb2 HR HN H3 HO HB1
     by_cases k1 : kd = 1
     · subst k1
       go_wp2_with fail
       refine (unnamed_calls R rb rn rc s w2 HR'.out).mono ?_
       rintro e w3 ⟨rfl, rfl⟩
       go_wp2
       go_ret
       exact ⟨ret_int (by rw [HV.out]; rfl), HB2.out⟩
     by_cases k6 : kd = 6
     · subst k6
       go_wp2_with fail
       refine (unnamed_calls W wb wn wc s w2 HW'.out).mono ?_
       rintro e w3 ⟨rfl, rfl⟩
       go_wp2
       go_ret
       exact ⟨ret_int (by rw [HV.out]; rfl), HB2.out⟩
     by_cases k7 : kd = 7
     · subst k7
       go_wp2_with fail
       refine (unnamed_calls W wb wn wc s w2 HW'.out).mono ?_
       rintro e w3 ⟨rfl, rfl⟩
       go_wp2
       go_ret
       exact ⟨ret_int (by rw [HV.out]; rfl), HB2.out⟩
     have e1 := dec_false k1
     have e6 := dec_false k6
     have e7 := dec_false k7
     have HV2 : Hid (q = if s.size = 0 then 0 else 2) := by
       show _ = _
       rw [HV.out, if_neg k1, if_neg (by omega)]
     clear HV k1 k6 k7
     by_cases hs : s.size = 0
     · have hs' := size_nil hs
       subst hs'
       clear hs
       go_wp2
       go_ret
       exact ⟨ret_int (by rw [HV2.out]; rfl), HB2.out⟩
     · have hne : (s.toList == []) = false := size_ne hs
       go_wp2
       go_ret
       exact ⟨ret_int (by rw [HV2.out, if_neg hs]), HB2.out⟩
end Go.Proofs.YtlhaeeenkgkdaaaGreatDoor

namespace Go.Proofs.YtlhaeeenkgkdaaaGreatDoor
open Go.RowKit

def SmallT (l : List ByteArray) : Prop := ∀ x ∈ l, x.size ≤ maxLen

theorem ne_true {a b : Int} (h : a ≠ b) : (a != b) = true := by simp [h]
set_option maxHeartbeats 2000000 in
theorem wrongDeed_calls (R W : List ByteArray) (C : List Ins) (rb : Option Addr) (rn rc : Nat) (wb : Option Addr) (wn wc : Nat) (cb : Option Addr) (cn cc : Nat) (w : World) (hd : DeedIn w rb rn rc wb wn wc cb cn cc R W C) (hr : SmallT R) (hw : SmallT W) :
   Calls Tryz.prog 72 #[.agg #[.slice rb rn rc, .slice wb wn wc, .slice cb cn cc]] w fun e w' => e = .returned (.int .i64 (wDeed R W C)) ∧ Below w.heap.size w w' := by
 obtain ⟨A, hA⟩ : ∃ A, A = w.alloc (.cells #[.slice rb rn rc, .slice wb wn wc, .slice cb cn cc] 44) := ⟨_, rfl⟩
 have hb0 : Below w.heap.size w A := by rw [hA]; exact (Below.refl _ _).alloc (Nat.le_refl _) _
 have hdA := hd.below hb0
 have HR := hid (wrongKeys_calls R rb rn rc A hr hdA.tr)
 have HW := hid (wrongKeys_calls W wb wn wc A hw hdA.tw)
 have hn := Codes.count hd.cd
 have hcm := Nat.le_trans hd.cd.hdr.le hd.cd.hdr.max
 unfold maxLen at hcm
 have HQ : Hid (wDeed R W C = if wKeys R ≠ 0 then wKeys R else if wKeys W ≠ 0 then wKeys W else if 12 < C.length then 5 else wCode R W C C.length) := rfl
 generalize wDeed R W C = q at *
 generalize wKeys R = kr at *
 generalize wKeys W = kw at *
 have HN := hid hn
 have HD := hid hdA
 have HB0 := hid hb0
 clear hd hdA hn hr hw hb0
 by_cases h1 : kr ≠ 0
 · have HE : Hid (q = kr) := by show _ = _; rw [HQ.out, if_pos h1]
   have t1 := ne_true h1
   clear h1 HQ
   subst hA
   go_enter Tryz.func72, Tryz.ntmps72
   go_wp2_with fail
   refine HR.out.mono ?_
   rintro e w1 ⟨rfl, rfl⟩
   go_wp2
   go_ret
   exact ⟨ret_int HE.out.symm, HB0.out⟩
 have h1' : kr = 0 := by simpa using h1
 subst h1'
 by_cases h2 : kw ≠ 0
 · have HE : Hid (q = kw) := by show _ = _; rw [HQ.out, if_neg h1, if_pos h2]
   have t1 := ne_true h2
   clear h1 h2 HQ
   subst hA
   go_enter Tryz.func72, Tryz.ntmps72
   go_wp2_with fail
   refine HR.out.mono ?_
   rintro e w1 ⟨rfl, rfl⟩
   go_wp2_with fail
   refine HW.out.mono ?_
   rintro e w1 ⟨rfl, rfl⟩
   go_wp2
   go_ret
   exact ⟨ret_int HE.out.symm, HB0.out⟩
 have h2' : kw = 0 := by simpa using h2
 subst h2'
 by_cases h3 : 12 < cn
 · have HE : Hid (q = 5) := by show _ = _; rw [HQ.out, if_neg h1, if_neg h2, if_pos (by rw [← HN.out]; exact h3)]
   clear h1 h2 HQ
   subst hA
   go_enter Tryz.func72, Tryz.ntmps72
   go_wp2_with fail
   refine HR.out.mono ?_
   rintro e w1 ⟨rfl, rfl⟩
   go_wp2_with fail
   refine HW.out.mono ?_
   rintro e w1 ⟨rfl, rfl⟩
   go_wp2
   go_ret
   exact ⟨ret_int HE.out.symm, HB0.out⟩
 have HE : Hid (q = wCode R W C C.length) := by show _ = _; rw [HQ.out, if_neg h1, if_neg h2, if_neg (by rw [← HN.out]; exact h3)]
 clear h1 h2 HQ
 have z0 : A.cell? ⟨w.heap.size, 0, none⟩ = some (.slice rb rn rc) := by rw [hA]; exact box_cell _ _ _ _ _ rfl
 have z1 : A.cell? ⟨w.heap.size, 1, none⟩ = some (.slice wb wn wc) := by rw [hA]; exact box_cell _ _ _ _ _ rfl
 have z2 : A.cell? ⟨w.heap.size, 2, none⟩ = some (.slice cb cn cc) := by rw [hA]; exact box_cell _ _ _ _ _ rfl
 have HZ := hid (And.intro z0 (And.intro z1 z2))
 clear z0 z1 z2
 subst hA
 go_enter Tryz.func72, Tryz.ntmps72
 go_wp2_with fail
 refine HR.out.mono ?_
 rintro e w1 ⟨rfl, rfl⟩
 go_wp2_with fail
 refine HW.out.mono ?_
 rintro e w1 ⟨rfl, rfl⟩
 go_wp2_with fail
 go_loopw [26] (fun i wr => ∃ k : Nat, k ≤ cn ∧ i = .int .i64 k ∧ Hid (wCode R W C k = 0) ∧ Hid (Below (w.alloc (.cells #[.slice rb rn rc, .slice wb wn wc, .slice cb cn cc] 44)).heap.size (w.alloc (.cells #[.slice rb rn rc, .slice wb wn wc, .slice cb cn cc] 44)) wr)) (fun i _ => cn - (intOf i).toNat)
 case atStart => exact ⟨0, Nat.zero_le _, rfl, rfl, Below.refl _ _⟩
 case round =>
   obtain ⟨k, hk, rfl, HC, HB⟩ := hrel
   by_cases hlt : k < cn
   · have hkl : k < C.length := by rw [← HN.out]; exact hlt
     have hi : (k : Int) < (cn : Int) := by omega
     have HI := hid (wrongInstr_calls R W C rb rn rc wb wn wc cb cn cc k wr (HD.out.below HB.out) hkl)
     have z0 := kept_cell HB.out HZ.out.1
     have z1 := kept_cell HB.out HZ.out.2.1
     have z2 := kept_cell HB.out HZ.out.2.2
     have HX := hid (wCode_at hkl HC.out)
     have HY := hid (wCode_step (R := R) (W := W) (C := C) HC.out)
     rw [← HE.out] at HX
     generalize wIns R W (C.getD k default) ((C.length : Int) - 1 - k) = x at *
     by_cases hx : x = 0
     · subst hx
       go_wp2_with fail
       refine HI.out.mono ?_
       rintro e w2 ⟨rfl, hb2⟩
       go_wp2
       go_roundw
       case rel => exact ⟨k + 1, by omega, by go_num, HY.out (by simp), below_deep HB.out hb2⟩
       case measure => simp [intOf]; omega
     · have t1 := ne_true hx
       have HXX := hid (HX.out hx)
       clear hx
       go_wp2_with fail
       refine HI.out.mono ?_
       rintro e w2 ⟨rfl, hb2⟩
       go_wp2
       go_ret
       exact ⟨ret_int HXX.out.symm, below_deep HB0.out (below_deep HB.out hb2)⟩
   · obtain rfl : k = cn := by omega
     go_wp2
     go_ret
     exact ⟨ret_int (by rw [HE.out, ← HN.out, HC.out]), below_deep HB0.out HB.out⟩
end Go.Proofs.YtlhaeeenkgkdaaaGreatDoor

namespace Go.Proofs.YtlhaeeenkgkdaaaGreatDoor
open Go.RowKit

structure GroundN (w : World) : Prop where
 syn : ∃ tp p, w.var? Tryz.prog "strconv.ErrSyntax" = some #[.iface tp p]
 rng : ∃ tp p, w.var? Tryz.prog "strconv.ErrRange" = some #[.iface tp p]
 tab : Lib.TabIs Tryz.prog w "internal/strconv.uint64pow10" .u64 Lib.pow10Tab
theorem var_below {P : Program} {w w' : World} {name : String} {cs : Array Value} (h : w.var? P name = some cs) (hb : Below w.heap.size w w') : w'.var? P name = some cs := by
 unfold World.var? at h ⊢
 cases hg : P.globalNamed name with
 | none => rw [hg] at h; cases h
 | some g =>
   rw [hg] at h
   simp only [Option.bind_some] at h ⊢
   have hlt : g < w.heap.size := by
     by_cases hl : g < w.heap.size
     · exact hl
     · rw [Array.getElem?_eq_none (by omega)] at h; cases h
   rw [hb.block g hlt]; exact h
theorem GroundN.below {w w' : World} (h : GroundN w) (hb : Below w.heap.size w w') : GroundN w' := by
 refine ⟨?_, ?_, ?_⟩
 · obtain ⟨t, p, hm⟩ := h.syn; exact ⟨t, p, var_below hm hb⟩
 · obtain ⟨t, p, hm⟩ := h.rng; exact ⟨t, p, var_below hm hb⟩
 · exact var_below h.tab hb
end Go.Proofs.YtlhaeeenkgkdaaaGreatDoor

namespace Go.Proofs.YtlhaeeenkgkdaaaGreatDoor
open Go.ChangeShapes Go.WideShapes Go.ChangeAt Go.RowKit

theorem gPow : Tryz.prog.globalNamed "internal/strconv.uint64pow10" = some 2 := by kernel_rfl
theorem tPow : (Tryz.prog.globals[2]?).map (·.type) = some 197 := by kernel_rfl
theorem gSyn : Tryz.prog.globalNamed "strconv.ErrSyntax" = some 0 := by kernel_rfl
theorem tSyn : (Tryz.prog.globals[0]?).map (·.type) = some 123 := by kernel_rfl
theorem gRng : Tryz.prog.globalNamed "strconv.ErrRange" = some 1 := by kernel_rfl
theorem tRng : (Tryz.prog.globals[1]?).map (·.type) = some 123 := by kernel_rfl
theorem cellsErr : Tryz.prog.cellsOf 195 = 1 := by kernel_rfl
theorem cellsStr1 : Tryz.prog.cellsOf 9 = 1 := by kernel_rfl
theorem starErr : "*" ++ "errors.errorString" = "*errors.errorString" := by decide
theorem rowErr (u : TypeId) (h : Tryz.prog.typeName? 3 u = some "*errors.errorString") : u = 193 :=
 typeName_ptr_named (nm := "errors.errorString") (by rw [starErr]; kernel_rfl) (by kernel_rfl) (by decide) u (by rw [starErr]; exact h)
theorem powData : (Rows.laid_internal_strconv_uint64pow10 : DataW Unit) = Lib.tabData .u64 Lib.pow10Tab := by kernel_rfl
theorem lift_shaped {H : Type} {enc : TypeId × Value → H} {a : Assume} {C : Checked} {os : Os} {f : FuncId} {fn : Func} {s : ChangeSpec} {conds : List PathCond} {apart fresh handsOn again : Bool} {X : World → Array Value → Prop}
   (hX : ∀ (w w' : World) (args : Array Value), w.heap = w'.heap → X w args → X w' args)
   (own : ownKnob C.prog.godebug = none) (started : os.Started) (noInit : C.prog.inits.idxOf? f = none) (hfn : C.prog.funcs[f]? = some fn)
   (witness : ∃ (w : World) (tape : Tape) (i : Input), w.os = os ∧ (w.forCall tape i).Shaped C.prog ∧ i.vars = [] ∧ Input.okWide C.prog (w.forCall tape i) .any w.heap.size f i ∧
     ((s.pre enc C.prog fn conds apart (w.forCall tape i).memory i.args ∧ X (w.forCall tape i).memory i.args) ∧ sizedMet enc C.prog fn (OpenSpec.ofChange s) apart (w.forCall tape i).memory i.args) ∧ a.holds C.prog (lone (Frame.enter C.prog f i.args .normal) [] (w.forCall tape i)))
   (contract : ∀ (W : World) (base : Nat) (args : Array Value) (ds gs : List (DataW H)) (before : List MemPlace),
     (∀ (j : Nat) t v, fn.params[j]? = some t → args[j]? = some v → Value.okWide C.prog W .any base t v) →
     DataW.Whole enc C.prog fn.params.toList s.vars apart W args.toList ds gs before →
     X W args → W.ShapedOpen C.prog →
     Calls C.prog f args W fun e W' => ∃ v, e = .returned v ∧ s.post enc C.prog fn apart fresh handsOn again W args v W') :
   ReturnsInHanded a C os f .any (fun w args => (s.pre enc C.prog fn conds apart w args ∧ X w args) ∧ sizedMet enc C.prog fn (OpenSpec.ofChange s) apart w args) (s.post enc C.prog fn apart fresh handsOn again) := by
 refine returnsInHanded_of_calls own started noInit witness ?_
 intro w tape i _ hsh _ hok hpre _
 obtain ⟨_, _, _, fn', hfn', _, _, _, _, hval⟩ := hok
 obtain rfl : fn' = fn := Option.some.inj (hfn'.symm.trans hfn)
 obtain ⟨⟨⟨ds, gs, before, hw, _⟩, hx⟩, _⟩ := hpre
 refine (contract (w.forCall tape i) w.heap.size i.args ds gs before hval (DataW.Whole.of_heap (w' := w.forCall tape i) (by rfl) hw) (hX _ _ _ (by rfl) hx) hsh).mono fun e W' ⟨v, he, hp⟩ => ?_
 subst he
 exact ChangeSpec.post_blind hp
end Go.Proofs.YtlhaeeenkgkdaaaGreatDoor

namespace Go.Proofs.YtlhaeeenkgkdaaaGreatDoor
open Go.ChangeShapes Go.WideShapes Go.ChangeAt Go.RowKit

theorem groundN_of {W : World} {x0 x1 : String × DataW Unit} (h : laidMet Tryz.prog [x0, x1, ("internal/strconv.uint64pow10", Rows.laid_internal_strconv_uint64pow10), ("strconv.ErrRange", Rows.laid_strconv_ErrRange), ("strconv.ErrSyntax", Rows.laid_strconv_ErrSyntax)] W) : GroundN W := by
 have h2 := h.tail.tail
 have h3 := h2.tail
 have h4 := h3.tail
 rw [powData] at h2
 refine ⟨?_, ?_, ?_⟩
 · obtain ⟨a0, s0, hv0, -, -, -⟩ := laid_sentinel h4 gSyn tSyn Tryz.underlying123 rowErr Tryz.underlying193 Tryz.underlying195 rfl rfl Tryz.underlying9 cellsErr cellsStr1
   exact ⟨_, _, hv0⟩
 · obtain ⟨a0, s0, hv0, -, -, -⟩ := laid_sentinel h3 gRng tRng Tryz.underlying123 rowErr Tryz.underlying193 Tryz.underlying195 rfl rfl Tryz.underlying9 cellsErr cellsStr1
   exact ⟨_, _, hv0⟩
 · exact Lib.tabIs_of_head gPow tPow Tryz.underlying197 Tryz.underlying168 (by kernel_rfl) (by kernel_rfl) h2
end Go.Proofs.YtlhaeeenkgkdaaaGreatDoor

namespace Go.Proofs.YtlhaeeenkgkdaaaGreatDoor
open Go.ChangeShapes Go.WideShapes Go.ChangeAt Go.RowKit Go.Deep

theorem own : ownKnob Tryz.prog.godebug = none := by kernel_rfl
theorem laidOut : laidOutB Tryz.prog = true := by kernel_rfl
theorem cellsStr : Tryz.prog.cellsOf 9 = 1 := by kernel_rfl
theorem cellsInt : Tryz.prog.cellsOf 3 = 1 := by kernel_rfl

end Go.Proofs.YtlhaeeenkgkdaaaGreatDoor
