/-
  The text that the program writes of a right deed is the deed's text.
-/
import Derived.Test.YthmkgfdglkdjmadGreatDoorTextPrint
import Derived.Deep.RegionHeld3
namespace Go.Proofs.YthmkgfdglkdjmadGreatDoor
open Go.RowKit

/-- The parts of a right deed's text: its keys, and the first j instructions. -/
def partsT (R W : List ByteArray) (C : List Ins) (j : Nat) : List T := join1 (wReads :: R.map keyT) :: join1 (wWrites :: W.map keyT) :: (C.take j).map (fun i => join1 (insWords i))
theorem partsT_all (R W : List ByteArray) (C : List Ins) {j : Nat} (h : C.length ≤ j) : partsT R W C j = (partsOf R W C).map join1 := by
  unfold partsT partsOf
  rw [List.take_of_length_le h]
  simp
theorem partsT_next (R W : List ByteArray) (C : List Ins) {j : Nat} (h : j < C.length) : strs ((partsT R W C (j + 1)).map ofT) = strs ((partsT R W C j).map ofT) ++ [.string (ofT (join1 (insWords (C.getD j default))))] := by
  unfold partsT
  rw [take_snoc_getD h]
  simp [strs]
theorem box3_keep {A w1 w2 : World} {b : Nat} {x y z : Value} (h : w1.cell? ⟨b, 0, none⟩ = some x ∧ w1.cell? ⟨b, 1, none⟩ = some y ∧ w1.cell? ⟨b, 2, none⟩ = some z ∧ Below A.heap.size A w1) (hb : Below w1.heap.size w1 w2) :
    w2.cell? ⟨b, 0, none⟩ = some x ∧ w2.cell? ⟨b, 1, none⟩ = some y ∧ w2.cell? ⟨b, 2, none⟩ = some z ∧ Below A.heap.size A w2 :=
  ⟨kept_cell hb h.1, kept_cell hb h.2.1, kept_cell hb h.2.2.1, below_deep h.2.2.2 hb⟩
theorem strs_inj : ∀ {l m : List ByteArray}, strs l = strs m → l = m
  | [], [], _ => rfl
  | [], _ :: _, h => by simp [strs] at h
  | _ :: _, [], h => by simp [strs] at h
  | a :: l, b :: m, h => by
    simp only [strs, List.map_cons, List.cons.injEq, Value.string.injEq] at h
    rw [h.1, strs_inj (l := l) (m := m) h.2]
theorem texts_one {w : World} {b : Option Addr} {n c : Nat} {K L : List ByteArray} (h : Texts w b n c K) (h' : Texts w b n c L) : K = L := by
  apply strs_inj
  have e1 := h.len
  have e2 := h'.len
  rcases h.run with h0 | ⟨bb, o, e, hr⟩
  · subst h0
    rw [List.eq_nil_of_length_eq_zero (l := strs K) (by omega), List.eq_nil_of_length_eq_zero (l := strs L) (by omega)]
  · rcases h'.run with h0 | ⟨bb', o', e', hr'⟩
    · subst h0
      rw [List.eq_nil_of_length_eq_zero (l := strs K) (by omega), List.eq_nil_of_length_eq_zero (l := strs L) (by omega)]
    · rw [e] at e'
      cases e'
      apply List.ext_getElem?
      intro j
      by_cases hj : j < (strs K).length
      · have a1 := hr j _ (List.getElem?_eq_getElem hj)
        have a2 := hr' j _ (List.getElem?_eq_getElem (by omega))
        rw [List.getElem?_eq_getElem hj, List.getElem?_eq_getElem (by omega), ← a1, ← a2]
      · rw [List.getElem?_eq_none (by omega), List.getElem?_eq_none (by omega)]
theorem printKeys_any (word : ByteArray) (kb : Option Addr) (kn kc : Nat) (w : World) (hk : ∃ K, Texts w kb kn kc K ∧ (join1 (keyT word :: K.map keyT)).length ≤ 100000 ∧ kn ≤ 99999) :
    Calls Tryz.prog 75 #[.string word, .slice kb kn kc] w fun e w' => ∃ s, e = .returned (.string s) ∧ Hid (∀ K, Texts w kb kn kc K → s = ofT (join1 (keyT word :: K.map keyT))) ∧ Below w.heap.size w w' := by
  obtain ⟨K, h1, h2, h3⟩ := hk
  refine (printKeys_calls word K kb kn kc w h1 h2 h3).mono fun _ _ ⟨e, h⟩ => ⟨_, e, fun L hL => ?_, h⟩
  rw [texts_one hL h1]
theorem owns_new (w : World) (vs : Array Value) (t n : Nat) (h : vs.size = n) (hn : n ≤ maxLen) : (w.alloc (.cells vs t)).ownsRow w.heap.size t 1 (.slice (some ⟨w.heap.size, 0, none⟩) n n) n vs.toList := by
  refine ⟨by simp [h], .inr ⟨w.heap.size, n, vs, rfl, Nat.le_refl _, heap_at _ _, Nat.le_refl _, hn, by simp [h], ?_⟩⟩
  rw [List.take_of_length_le (by simp [h])]
/-- What a right instruction's writing asks. -/
theorem right_write {R W : List ByteArray} {C : List Ins} (h : RightD R W C) {j : Nat} (hj : j < C.length) :
    ∃ k : Nat, (C.getD j default).kind = (k : Int) ∧ 1 ≤ k ∧ k ≤ 9 ∧ (-9223372036854775808 ≤ (C.getD j default).a ∧ (C.getD j default).a ≤ 9223372036854775807) ∧ (-9223372036854775808 ≤ (C.getD j default).b ∧ (C.getD j default).b ≤ 9223372036854775807) ∧ (-9223372036854775808 ≤ (C.getD j default).n ∧ (C.getD j default).n ≤ 9223372036854775807) ∧ (join1 (insWords (C.getD j default))).length ≤ 100000 := by
  have hw := h.i j hj
  have hc := h.c
  have hI := right_instr hw
  have hN := right_norm (by omega) hw
  have hl := ins_len h.r h.w (by omega) hw
  have hk := hI.lo
  have hk9 := hI.hi
  have ha0 := hI.a0
  have ha4 := hI.a4
  have hb0 := hI.b0
  have hb4 := hI.b4
  have hn0 := hN.lo
  have hn1 := hN.hi
  exact ⟨(C.getD j default).kind.toNat, by omega, by omega, by omega, by omega, by omega, by omega, by omega⟩

set_option maxRecDepth 100000 in
set_option maxHeartbeats 400000 in
theorem print_calls (R W : List ByteArray) (C : List Ins) (rb : Option Addr) (rn rc : Nat) (wb : Option Addr) (wn wc : Nat) (cb : Option Addr) (cn cc : Nat) (w : World) (hG : Ground w) (hd : DeedIn w rb rn rc wb wn wc cb cn cc R W C) (hr : SmallT R) (hw : SmallT W) (hok : wDeed R W C = 0) :
    Calls Tryz.prog 45 #[.agg #[.slice rb rn rc, .slice wb wn wc, .slice cb cn cc]] w fun e w' => e = .returned (.string (ofT (printT R W C))) ∧ Below w.heap.size w w' := by
  have hR := right_deed hok
  have hrn := Texts.count hd.tr
  have hwn := Texts.count hd.tw
  have hcn := Codes.count hd.cd
  have hr5 := wKeys_len hR.r
  have hw5 := wKeys_len hR.w
  have hc12 := hR.c
  have HB0 : Hid (Below w.heap.size w (w.alloc (.cells #[.slice rb rn rc, .slice wb wn wc, .slice cb cn cc] 75))) := grew _ _
  have HWR := hid (wrongDeed_calls R W C rb rn rc wb wn wc cb cn cc _ (hd.below HB0.out) hr hw)
  rw [hok] at HWR
  have HG := hid hG
  have HD := hid hd
  have HRD := hid hR
  have HP : Hid (printT R W C = join2 (partsT R W C cn)) := by
    show _ = _; rw [partsT_all R W C (by omega)]; rfl
  have HPL := hid (print_len hR)
  have hrn5 : rn ≤ 5 := by omega
  have hwn5 : wn ≤ 5 := by omega
  have hcn12 : cn ≤ 12 := by omega
  have HCN := hid hcn
  have HL1 : Hid ((join1 (wReads :: R.map keyT)).length ≤ 100000) := Nat.le_trans (keys_len hR.r (w := wReads) (by decide)) (by decide)
  have HL2 : Hid ((join1 (wWrites :: W.map keyT)).length ≤ 100000) := Nat.le_trans (keys_len hR.w (w := wWrites) (by decide)) (by decide)
  have HR9 : Hid (rn ≤ 99999) := by show _ ≤ _; omega
  have HW9 : Hid (wn ≤ 99999) := by show _ ≤ _; omega
  clear hd hr hw hok hR hG hrn hwn hr5 hw5 hc12 hcn
  go_enter Tryz.func45, Tryz.ntmps45
  go_wp2_with fail
  refine HWR.out.mono ?_
  rintro e w1 ⟨rfl, hb1⟩
  have HB1 := hid (below_deep HB0.out hb1)
  have x0 := kept_cell hb1 (box_cell w _ 75 0 (.slice rb rn rc) rfl)
  have x1 := kept_cell hb1 (box_cell w _ 75 1 (.slice wb wn wc) rfl)
  have x2 := kept_cell hb1 (box_cell w _ 75 2 (.slice cb cn cc) rfl)
  have HSW : Hid (w1.drew.cell? ⟨w.heap.size, 0, none⟩ = some (.slice rb rn rc) ∧ w1.drew.cell? ⟨w.heap.size, 1, none⟩ = some (.slice wb wn wc) ∧ w1.drew.cell? ⟨w.heap.size, 2, none⟩ = some (.slice cb cn cc) ∧ Below w1.heap.size w1 w1.drew) := ⟨x0, x1, x2, (Below.refl _ _).drew⟩
  have HD1 := hid (HD.out.below HB1.out)
  clear hb1
  go_wp2
  go_region_held3 (fun w' => w'.cell? ⟨w.heap.size, 0, none⟩ = some (.slice rb rn rc) ∧ w'.cell? ⟨w.heap.size, 1, none⟩ = some (.slice wb wn wc) ∧ w'.cell? ⟨w.heap.size, 2, none⟩ = some (.slice cb cn cc) ∧ Below w1.heap.size w1 w')
    (first
      | exact HSW.out
      | exact box3_keep (by assumption) (by assumption)
      | exact box3_keep (by assumption) (grew _ _))
    (first
      | (go_at_call 75; refine (printKeys_any _ _ _ _ _ ?_).mono ?_; first | (exact ⟨R, HD1.out.tr.below (by decide) (held4 (by assumption)), HL1.out, HR9.out⟩; rintro e w2 ⟨s2, rfl, hs2, hb2⟩) | (exact ⟨W, HD1.out.tw.below (by decide) (held4 (by assumption)), HL2.out, HW9.out⟩; rintro e w3 ⟨s3, rfl, hs3, hb3⟩)))
  have HBX := hid (below_deep (below_deep (below_deep HB1.out.drew hb2) hb3) (grew w3 (.cells #[.string s2, .string s3] 9)))
  have hz2 : s2 = ofT (join1 (wReads :: R.map keyT)) := hs2.out R (HD1.out.tr.below (by decide) (Below.refl _ _).drew)
  have hz3 : s3 = ofT (join1 (wWrites :: W.map keyT)) := hs3.out W (HD1.out.tw.below (by decide) (below_deep (Below.refl _ _).drew hb2))
  have HPP : Hid (strs ((partsT R W C 0).map ofT) = [.string s2, .string s3]) := by
    show _ = _; rw [hz2, hz3]; rfl
  have y2 := box_past (.cells #[.string s2, .string s3] 9) (kept_cell hb3 (kept_cell hb2 (kept_cell (Below.refl _ w1).drew x2)))
  have HOW := hid (owns_new w3 #[.string s2, .string s3] 9 2 rfl (by unfold maxLen; omega))
  have HSZ : Hid (w3.heap.size + 1 = (w3.alloc (.cells #[.string s2, .string s3] 9)).heap.size) := (World.size_alloc _ _).symm
  have HWB : Hid (w.heap.size ≤ w3.heap.size) := (below_deep (below_deep HB1.out.drew hb2) hb3).size
  clear hb2 hb3 hs2 hs3 hz2 hz3 x0 x1 x2
  go_wp2
  generalize hwa : w3.alloc (.cells #[.string s2, .string s3] 9) = wa at *
  go_loopw [3, 19] (fun v c wr => ∃ j : Nat, j ≤ cn ∧ c = .int .i64 j ∧ Hid (wr.ownsRow w3.heap.size 9 1 v (j + 2) (strs ((partsT R W C j).map ofT))) ∧ Hid (Below w.heap.size w wr) ∧ Hid (w3.heap.size ≤ wr.heap.size)) (fun _ c _ => cn - (intOf c).toNat)
  case atStart =>
    refine ⟨0, Nat.zero_le _, rfl, ?_, HBX.out, ?_⟩
    · show wa.ownsRow _ _ _ _ _ _
      rw [HPP.out]; exact HOW.out
    · show _ ≤ _
      rw [← HSZ.out]; omega
  case round =>
    obtain ⟨j, hj, rfl, HO, HB, HSZ2⟩ := hrel
    by_cases hlt : j < cn
    case neg =>
      obtain rfl : j = cn := by omega
      obtain ⟨pb, pc, rfl, hl⟩ := Lies.owned HO.out
      rcases hl.run with h0 | ⟨bb, oo, rfl, hr⟩
      · omega
      have hlt' := hr.lt (by simp [strs, partsT])
      have HJ := hid (join2_calls (partsT R W C j) bb oo (j + 2) pc wr hl hlt' (by rw [← HP.out]; have := HPL.out; omega) (by omega))
      rw [← HP.out] at HJ
      clear hl hr hlt'
      go_wp2_with fail
      refine HJ.out.mono ?_
      rintro e w4 ⟨rfl, hb4⟩
      have HB4 := hid (below_deep HB.out hb4)
      clear hb4
      go_wp2
      go_ret
      exact ⟨rfl, HB4.out⟩
    case pos =>
      have hjc : j < C.length := by have := HCN.out; omega
      obtain ⟨b, o, e1, r1⟩ : ∃ b o, cb = some ⟨b, o, none⟩ ∧ Run w b o (insCells C) := by
        rcases HD.out.cd.run with h | h
        · omega
        · exact h
      subst e1
      have hbw : b < w.heap.size := r1.lt (by rw [insCells_length]; omega)
      obtain ⟨c0, c1, c2, c3, c4⟩ := Codes.cells (r1.below HB.out hbw) hjc
      obtain ⟨k, hk, hk1, hk9, ha, hb, hn, hjl⟩ := right_write HRD.out hjc
      have HNX := hid (partsT_next R W C hjc)
      have hi : (j : Int) < (cn : Int) := by omega
      generalize C.getD j default = i at *
      have HPI := hid (printInstr_calls i k _ (HG.out.below (below_deep HB.out (grew wr (.cells #[.int .i64 i.kind, .int .i64 i.a, .int .i64 i.b, .int .i64 i.n, .string i.key] 101)))) hk hk1 hk9 ha hb hn hjl)
      unfold insV at HPI
      obtain ⟨z, hz⟩ : ∃ z, z = ofT (join1 (insWords i)) := ⟨_, rfl⟩
      rw [← hz] at HPI HNX
      clear hz ha hb hn hjl hk hk1 hk9 r1
      have hbr : b < wr.heap.size := by have := HB.out.size; omega
      go_wp2_with fail
      refine HPI.out.mono ?_
      rintro e w4 ⟨rfl, hb4⟩
      have HB4 := hid (below_deep (below_deep HB.out (grew wr _)) hb4)
      have HOX := hid ((owns_below HO.out (below_deep (grew wr _) hb4)).alloc (.cells #[.string z] 9))
      have HCX := hid (lies_one w4 #[.string z] 9 1 rfl)
      have HLT := hid HOX.out.lt
      have B1 : Hid ((j + 2 + 1) * 16 ≤ 140737488355328) := by show _ ≤ _; omega
      have HS4 : Hid (w3.heap.size ≤ w4.heap.size) := by
        show _ ≤ _
        have h1 := hb4.size
        rw [World.size_alloc] at h1
        have := HSZ2.out
        omega
      clear hb4
      go_wp2_with (at_builtin; refine wpList_onto _ rfl _ _ 72 9 1 16 _ Tryz.underlying72 strInfo rfl (by decide) (by decide) rfl w3.heap.size _ (j + 2) _ rfl HOX.out _ 1 _ _ rfl HCX.out (strs_one [z]) B1.out (le_box HS4.out) ?_)
      intro v1 w5 hown hg
      have HB5 := hid ((below_deep HB4.out (grew w4 (.cells #[.string z] 9))).trans (((Below.refl w3.heap.size _).grown hg (le_box HS4.out) (fun y hy => (HLT.out y hy).1)).mono HWB.out))
      have HS5 : Hid (w3.heap.size ≤ w5.heap.size) := by
        show _ ≤ _
        have h1 := ((Below.refl w3.heap.size _).grown hg (le_box HS4.out) (fun y hy => (HLT.out y hy).1)).size
        rw [World.size_alloc] at h1
        have := HS4.out
        omega
      have HO5 := hid hown
      clear hown hg
      go_wp2
      go_roundw
      case rel => exact ⟨j + 1, by omega, by go_num, (by show World.ownsRow _ _ _ _ _ _ _; rw [HNX.out]; exact HO5.out), HB5.out, HS5.out⟩
      case measure => simp [intOf]; omega
end Go.Proofs.YthmkgfdglkdjmadGreatDoor
