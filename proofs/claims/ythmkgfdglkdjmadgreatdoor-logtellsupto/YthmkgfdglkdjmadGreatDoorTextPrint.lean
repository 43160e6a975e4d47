/-
  The program's way from a right deed to its text.
-/
import Derived.Test.YthmkgfdglkdjmadGreatDoorTextParse
import Derived.Lib.ItoaLen
namespace Go.Proofs.YthmkgfdglkdjmadGreatDoor
open Go.RowKit

theorem join_calls {sep : T} {j : List T → T} (hj : ∀ l, Lib.join l sep = j l) (l : List T) (b o n c : Nat) (w : World) (ht : Texts w (some ⟨b, o, none⟩) n c (l.map ofT)) (hb : b < w.heap.size) (hl : (j l).length ≤ 100000) (hn : n ≤ 100000) :
    Calls Tryz.prog 77 #[.slice (some ⟨b, o, none⟩) n c, .string (ofT sep)] w fun e w' => e = .returned (.string (ofT (j l))) ∧ Below w.heap.size w w' := by
  have hc := Texts.count ht
  have hd := ht.hdr.le
  have hlen : (l.map ofT).length = l.length := List.length_map _
  have e1 : ((l.map ofT).map (fun x => x.data.toList)) = l := by
    rw [List.map_map]
    have : ((fun x : ByteArray => x.data.toList) ∘ ofT) = id := by funext x; exact keyT_ofT x
    rw [this, List.map_id]
  have e2 : (ofT sep).data.toList = sep := keyT_ofT sep
  have := Any.strings_Join lays156 builder_Extra_156 b o c (l.map ofT) (ofT sep) w (fun k x hx => by
      rcases ht.run with h | ⟨b', o', e, hr⟩
      · have := (List.getElem?_eq_some_iff.1 hx).1
        omega
      · cases e
        exact hr k _ (by simp only [strs, List.getElem?_map] at hx ⊢; rw [hx]; rfl)) hb (by omega) (by omega) (by rw [e1, e2, hj]; omega)
  rw [e1, e2, hj, ← hc] at this
  exact this
theorem join1_calls (l : List T) (b o n c : Nat) (w : World) (ht : Texts w (some ⟨b, o, none⟩) n c (l.map ofT)) (hb : b < w.heap.size) (hl : (join1 l).length ≤ 100000) (hn : n ≤ 100000) :
    Calls Tryz.prog 77 #[.slice (some ⟨b, o, none⟩) n c, .string ⟨#[32]⟩] w fun e w' => e = .returned (.string (ofT (join1 l))) ∧ Below w.heap.size w w' := join_calls join_join1 l b o n c w ht hb hl hn
theorem join2_calls (l : List T) (b o n c : Nat) (w : World) (ht : Texts w (some ⟨b, o, none⟩) n c (l.map ofT)) (hb : b < w.heap.size) (hl : (join2 l).length ≤ 100000) (hn : n ≤ 100000) :
    Calls Tryz.prog 77 #[.slice (some ⟨b, o, none⟩) n c, .string ⟨#[59, 32]⟩] w fun e w' => e = .returned (.string (ofT (join2 l))) ∧ Below w.heap.size w w' := join_calls join_join2 l b o n c w ht hb hl hn

theorem heap_at (w : World) (o : Obj) : (w.alloc o).heap[w.heap.size]? = some o := by
  show (w.heap.push o)[w.heap.size]? = some o
  simp
theorem owns_one (w : World) (vs : Array Value) (t sz : Nat) (h : vs.size = sz) : (w.alloc (.cells vs t)).ownsRow w.heap.size t sz (.slice (some ⟨w.heap.size, 0, none⟩) 1 1) 1 vs.toList := by
  refine ⟨by simp [h], .inr ⟨w.heap.size, 1, vs, rfl, Nat.le_refl _, heap_at _ _, Nat.le_refl _, by unfold maxLen; omega, by simp [h], ?_⟩⟩
  rw [List.take_of_length_le (by simp [h])]
theorem map_keys (word : ByteArray) (K : List ByteArray) : ((keyT word :: K.map keyT).map ofT) = word :: K := by
  rw [List.map_cons, ofT_keyT, List.map_map]
  have : (ofT ∘ keyT) = id := by funext x; exact ofT_keyT x
  rw [this, List.map_id]

set_option maxHeartbeats 1000000 in
theorem printKeys_calls (word : ByteArray) (K : List ByteArray) (kb : Option Addr) (kn kc : Nat) (w : World) (hk : Texts w kb kn kc K) (hl : (join1 (keyT word :: K.map keyT)).length ≤ 100000) (hn : kn ≤ 99999) :
    Calls Tryz.prog 75 #[.string word, .slice kb kn kc] w fun e w' => e = .returned (.string (ofT (join1 (keyT word :: K.map keyT)))) ∧ Below w.heap.size w w' := by
  have HK := hid (hk.below (by decide) (grew w (.cells #[.string word] 9)))
  have HO := hid (owns_one w #[.string word] 9 1 rfl)
  have HL := hid hl
  have HM := hid (map_keys word K)
  have hb : Hid ((1 + kn) * 16 ≤ 140737488355328) := by show _ ≤ _; omega
  clear hk hl
  generalize (keyT word :: K.map keyT) = L at *
  go_enter Tryz.func75, Tryz.ntmps75
  go_wp2_with (at_builtin; refine wpList_onto _ rfl _ _ 72 9 1 16 _ Tryz.underlying72 strInfo rfl (by decide) (by decide) rfl w.heap.size _ 1 _ rfl HO.out _ kn kc _ rfl HK.out (strs_one K) hb.out (le_box (Nat.le_refl _)) ?_)
  intro v1 w1 hown hg
  have HB1 := hid ((grew w (.cells #[.string word] 9)).grown hg (le_box (Nat.le_refl _)) (fun y hy => (HO.out.lt y hy).1))
  obtain ⟨b1, c1, rfl, ht1⟩ := Lies.owned hown
  rcases ht1.run with h | ⟨bb, oo, rfl, hr⟩
  · omega
  have hlt := hr.lt (by simp)
  have ht : Texts w1 (some ⟨bb, oo, none⟩) (1 + kn) c1 (L.map ofT) := by rw [HM.out]; exact ht1
  have HJ := hid (join1_calls L bb oo (1 + kn) c1 w1 ht hlt HL.out (by omega))
  clear hown hg ht1 hr ht hlt
  go_wp2_with fail
  refine HJ.out.mono ?_
  rintro e w2 ⟨rfl, hb2⟩
  have HB2 := hid (below_deep HB1.out hb2)
  clear hb2
  go_wp2
  go_ret
  exact ⟨rfl, HB2.out⟩

theorem reg_ofT (n : Int) : (⟨#[114]⟩ : ByteArray) ++ ofT (Lib.itoa n) = ofT (reg n) := by
  apply keyT_eq
  simp [keyT, ofT, reg]
theorem itoa_size {n : Int} (h0 : -9223372036854775808 ≤ n) (h1 : n ≤ 9223372036854775807) : (ofT (Lib.itoa n)).size ≤ 21 := by
  rw [ofT_size]; exact Lib.itoa_length_le n h0 h1
/-- The state between two rounds: the words in block b, some of them filled. -/
structure Fills2 (w0 wr : World) (b d : Nat) (PL : List T) (i : Ins) (j : Nat) : Prop where
  bel : Below w0.heap.size w0 wr
  row : ∀ k, k < PL.length → wr.cell? ⟨b, k, none⟩ = some (.string (ofT (if k < j then fillP i (PL.getD k []) else PL.getD k [])))
  free : ∀ k, wr.frozen? ⟨b, k, none⟩ = false
  ins : InsAt wr d i
theorem Fills2.lt {w0 wr : World} {b d : Nat} {PL : List T} {i : Ins} {j : Nat} (h : Fills2 w0 wr b d PL i j) (hp : 1 ≤ PL.length) : b < wr.heap.size := World.block_lt_of_cell? _ _ (h.row 0 (by omega))
theorem Fills2.done {w0 wr : World} {b d : Nat} {PL : List T} {i : Ins} {j n : Nat} (h : Fills2 w0 wr b d PL i j) (hj : PL.length ≤ j) (hn : n = PL.length) (hm : n ≤ maxLen) : Texts wr (some ⟨b, 0, none⟩) n n ((PL.map (fillP i)).map ofT) := by
  refine ⟨by simp [strs, hn], ⟨Nat.le_refl _, hm, fun h => by cases h⟩, .inr ⟨_, _, rfl, fun k u hu => ?_⟩⟩
  have hk : k < PL.length := by
    have := (List.getElem?_eq_some_iff.1 hu).1
    simpa [strs] using this
  have := h.row k hk
  rw [if_pos (by omega)] at this
  rw [Nat.zero_add, this]
  simp only [strs, List.getElem?_map, List.getElem?_eq_getElem hk, Option.map_some, Option.some.injEq] at hu
  rw [← hu]
  simp [List.getD, hk]
theorem Fills2.step {w0 wr w2 : World} {b d : Nat} {PL : List T} {i : Ins} {j : Nat} (h : Fills2 w0 wr b d PL i j) (hb : Below wr.heap.size wr w2) (hj : j < PL.length) (hbd : b ≠ d) (hB : w0.heap.size ≤ b) : Fills2 w0 (w2.setCell ⟨b, j, none⟩ (.string (ofT (fillP i (PL.getD j []))))) b d PL i (j + 1) := by
  have hlt := h.lt (by omega)
  refine ⟨(below_deep h.bel hb).setCell (p := ⟨b, j, none⟩) hB _, fun k hk => ?_, fun k => ?_, (h.ins.below hb).far hbd _⟩
  · have hr := kept_cell hb (h.row k hk)
    by_cases e : k = j
    · subst e
      rw [if_pos (by omega)]
      exact World.cell?_setCell_same _ _ _ hr
    · rw [set_off (fun x => e x.symm), hr]
      by_cases hkj : k < j
      · rw [if_pos hkj, if_pos (by omega)]
      · rw [if_neg hkj, if_neg (by omega)]
  · rw [free_set]; exact kept_free hb ⟨hlt, h.free k⟩
theorem Fills2.same {w0 wr : World} {b d : Nat} {PL : List T} {i : Ins} {j : Nat} (h : Fills2 w0 wr b d PL i j) (e : fillP i (PL.getD j []) = PL.getD j []) : Fills2 w0 wr b d PL i (j + 1) := by
  refine ⟨h.bel, fun k hk => ?_, h.free, h.ins⟩
  have hr := h.row k hk
  by_cases ek : k = j
  · subst ek
    rw [if_pos (by omega), e]
    rw [if_neg (by omega)] at hr
    exact hr
  · rw [hr]
    by_cases hkj : k < j
    · rw [if_pos hkj, if_pos (by omega)]
    · rw [if_neg hkj, if_neg (by omega)]

set_option maxHeartbeats 4000000 in
theorem printInstr_calls (i : Ins) (k : Nat) (w : World) (hG : Ground w) (hk : i.kind = (k : Int)) (h1 : 1 ≤ k) (h9 : k ≤ 9) (ha : -9223372036854775808 ≤ i.a ∧ i.a ≤ 9223372036854775807) (hb : -9223372036854775808 ≤ i.b ∧ i.b ≤ 9223372036854775807) (hn : -9223372036854775808 ≤ i.n ∧ i.n ≤ 9223372036854775807) (hl : (join1 (insWords i)).length ≤ 100000) :
    Calls Tryz.prog 76 #[insV i] w fun e w' => e = .returned (.string (ofT (join1 (insWords i)))) ∧ Below w.heap.size w w' := by
  obtain ⟨A, hA⟩ : ∃ A, A = w.alloc (.cells #[.int .i64 i.kind, .int .i64 i.a, .int .i64 i.b, .int .i64 i.n, .string i.key] 101) := ⟨_, rfl⟩
  have HBA : Hid (Below w.heap.size w A) := by show Below _ _ _; rw [hA]; exact grew _ _
  have HIA : Hid (InsAt A w.heap.size i) := by show InsAt _ _ _; rw [hA]; exact five_new w i 101
  have HG0 := hid hG
  have HGA := hid (hG.below HBA.out)
  have HS := hid (shape_calls k A HGA.out)
  have sc := HGA.out.shape k (by omega)
  have hpl := placesT_len h1 h9
  have HW := hid (fill_words i hk h1 h9)
  rw [← HW.out] at hl ⊢
  have HL := hid hl
  have hmn : ∃ m, m = (placesT k).length := ⟨_, rfl⟩
  obtain ⟨m, hm⟩ := hmn
  rw [← hm] at HS hpl
  have HM := hid hm
  have hm1 := hpl.1
  have hm2 := hpl.2
  have hkz : (k : Int) ≤ 9 := by omega
  have hk0 : (0 : Int) ≤ (k : Int) := by omega
  clear hl hm hpl hG
  generalize placesT k = PL at *
  generalize ofT (shapeT k) = SH at *
  have a0 := HIA.out.c0
  rw [hk] at a0
  have HSZ : Hid (A.heap.size = w.heap.size + 1) := by show _ = _; rw [hA, World.size_alloc]
  rw [HSZ.out] at HS
  subst hA
  unfold insV
  rw [hk] at *
  go_enter Tryz.func76, Tryz.ntmps76
  go_wp2_with fail
  refine HS.out.mono ?_
  rintro e w1 ⟨rfl, hp⟩
  have HB1 := hid (below_deep HBA.out hp.below)
  have HI1 := hid (HIA.out.below hp.below)
  have HP := hid hp
  clear hp sc
  go_wp2
  go_loopw [13] (fun c wr => ∃ j : Nat, j ≤ m ∧ c = .int .i64 j ∧ Hid (Fills2 w wr (w.heap.size + 1) w.heap.size PL i j)) (fun c _ => m - (intOf c).toNat)
  case atStart =>
    refine ⟨0, Nat.zero_le _, rfl, ?_⟩
    refine ⟨HB1.out, fun k hk => ?_, fun k => ?_, HI1.out⟩
    · rw [if_neg (by omega)]
      have := pieces_cell HP.out (j := k) (by rw [List.length_map]; exact hk)
      rw [HSZ.out, getD_map_ofT hk] at this
      exact this
    · rw [HP.out.is]
      exact World.frozen?_alloc_at _ _ _ _ HSZ.out.symm
  case round =>
    obtain ⟨j, hj, rfl, HF⟩ := hrel
    by_cases hlt : j < m
    case neg =>
      obtain rfl : j = m := by omega
      have HT := hid (HF.out.done (by have := HM.out; omega) (by have := HM.out; omega) (by unfold maxLen; omega))
      have HJ := hid (join1_calls (PL.map (fillP i)) (w.heap.size + 1) 0 j j wr HT.out (HF.out.lt (by have := HM.out; omega)) HL.out (by omega))
      go_wp2_with fail
      refine HJ.out.mono ?_
      rintro e w2 ⟨rfl, hb2⟩
      have HB2 := hid (below_deep HF.out.bel hb2)
      clear hb2
      go_wp2
      go_ret
      exact ⟨rfl, HB2.out⟩
    case pos =>
      have hjl : j < PL.length := by have := HM.out; omega
      have c1 := HF.out.row j hjl
      rw [if_neg (by omega)] at c1
      have hi : (j : Int) < (m : Int) := by omega
      have HSTEP : Hid (∀ w2, Below wr.heap.size wr w2 → Fills2 w (w2.setCell ⟨w.heap.size + 1, j, none⟩ (.string (ofT (fillP i (PL.getD j []))))) (w.heap.size + 1) w.heap.size PL i (j + 1)) := fun w2 hb2 => HF.out.step hb2 hjl (by omega) (by omega)
      have HSAME : Hid (fillP i (PL.getD j []) = PL.getD j [] → Fills2 w wr (w.heap.size + 1) w.heap.size PL i (j + 1)) := fun e => HF.out.same e
      have HCC : Hid (∀ w2, Below wr.heap.size wr w2 → ∃ x, w2.cell? ⟨w.heap.size + 1, j, none⟩ = some (.string x) ∧ w2.frozen? ⟨w.heap.size + 1, j, none⟩ = false) := fun w2 hb2 => ⟨_, kept_cell hb2 c1, kept_free hb2 ⟨HF.out.lt (by omega), HF.out.free j⟩⟩
      clear hjl
      generalize PL.getD j [] = p at *
      by_cases hA : p = pA
      · subst hA
        have sA : ((ofT pA).toList == [114, 65]) = true := by rw [text_eq]; rfl
        rw [fillP_A] at HSTEP
        have HC := hid (itoa_calls i.a wr (HG0.out.below HF.out.bel).num ha.1 ha.2)
        have hX := itoa_size ha.1 ha.2
        have x1 := HF.out.ins.c1
        rw [← reg_ofT] at HSTEP
        generalize ofT pA = P at *
        generalize ofT (Lib.itoa i.a) = X at *
        go_wp2_with fail
        refine HC.out.mono ?_
        rintro e w2 ⟨rfl, hb2⟩
        obtain ⟨y, y1, y2⟩ := HCC.out w2 hb2
        have HN := hid (HSTEP.out w2 hb2)
        clear hb2
        go_wp2
        go_roundw
        case rel => exact ⟨j + 1, by omega, by go_num, HN.out⟩
        case measure => simp [intOf]; omega
      by_cases hB : p = pB
      · subst hB
        have sA : ((ofT pB).toList == [114, 65]) = false := by rw [text_eq]; rfl
        have sB : ((ofT pB).toList == [114, 66]) = true := by rw [text_eq]; rfl
        rw [fillP_B] at HSTEP
        have HC := hid (itoa_calls i.b wr (HG0.out.below HF.out.bel).num hb.1 hb.2)
        have hX := itoa_size hb.1 hb.2
        have x1 := HF.out.ins.c2
        rw [← reg_ofT] at HSTEP
        generalize ofT pB = P at *
        generalize ofT (Lib.itoa i.b) = X at *
        go_wp2_with fail
        refine HC.out.mono ?_
        rintro e w2 ⟨rfl, hb2⟩
        obtain ⟨y, y1, y2⟩ := HCC.out w2 hb2
        have HN := hid (HSTEP.out w2 hb2)
        clear hb2
        go_wp2
        go_roundw
        case rel => exact ⟨j + 1, by omega, by go_num, HN.out⟩
        case measure => simp [intOf]; omega
      by_cases hN : p = pN
      · subst hN
        have sA : ((ofT pN).toList == [114, 65]) = false := by rw [text_eq]; rfl
        have sB : ((ofT pN).toList == [114, 66]) = false := by rw [text_eq]; rfl
        have sN : ((ofT pN).toList == [110]) = true := by rw [text_eq]; rfl
        rw [fillP_N] at HSTEP
        have HC := hid (itoa_calls i.n wr (HG0.out.below HF.out.bel).num hn.1 hn.2)
        have hX := itoa_size hn.1 hn.2
        have x1 := HF.out.ins.c3
        generalize ofT pN = P at *
        generalize ofT (Lib.itoa i.n) = X at *
        go_wp2_with fail
        refine HC.out.mono ?_
        rintro e w2 ⟨rfl, hb2⟩
        obtain ⟨y, y1, y2⟩ := HCC.out w2 hb2
        have HN := hid (HSTEP.out w2 hb2)
        clear hb2
        go_wp2
        go_roundw
        case rel => exact ⟨j + 1, by omega, by go_num, HN.out⟩
        case measure => simp [intOf]; omega
      by_cases hK : p = pK
      · subst hK
        have sA : ((ofT pK).toList == [114, 65]) = false := by rw [text_eq]; rfl
        have sB : ((ofT pK).toList == [114, 66]) = false := by rw [text_eq]; rfl
        have sN : ((ofT pK).toList == [110]) = false := by rw [text_eq]; rfl
        have sK : ((ofT pK).toList == [107, 101, 121]) = true := by rw [text_eq]; rfl
        rw [fillP_K] at HSTEP
        have x1 := HF.out.ins.c4
        rw [ofT_keyT] at HSTEP
        generalize ofT pK = P at *
        obtain ⟨y, y1, y2⟩ := HCC.out wr (Below.refl _ _)
        have HN := hid (HSTEP.out wr (Below.refl _ _))
        go_wp2
        go_roundw
        case rel => exact ⟨j + 1, by omega, by go_num, HN.out⟩
        case measure => simp [intOf]; omega
      have sA : ((ofT p).toList == [114, 65]) = false := by rw [text_eq]; exact decide_eq_false hA
      have sB : ((ofT p).toList == [114, 66]) = false := by rw [text_eq]; exact decide_eq_false hB
      have sN : ((ofT p).toList == [110]) = false := by rw [text_eq]; exact decide_eq_false hN
      have sK : ((ofT p).toList == [107, 101, 121]) = false := by rw [text_eq]; exact decide_eq_false hK
      have HN := hid (HSAME.out (by unfold fillP; rw [if_neg hA, if_neg hB, if_neg hN, if_neg hK]))
      clear hA hB hN hK
      generalize ofT p = P at *
      go_wp2
      go_roundw
      case rel => exact ⟨j + 1, by omega, by go_num, HN.out⟩
      case measure => simp [intOf]; omega
end Go.Proofs.YthmkgfdglkdjmadGreatDoor
