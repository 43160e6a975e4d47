/-
  The program's way from an instruction's words to the instruction.
-/
import Derived.Test.YthmkgfdglkdjmadGreatDoorInsAt
namespace Go.Proofs.YthmkgfdglkdjmadGreatDoor
open Go.RowKit

def insV (i : Ins) : Value := .agg #[.int .i64 i.kind, .int .i64 i.a, .int .i64 i.b, .int .i64 i.n, .string i.key]
def ins00 : Ins := (0, 0, 0, 0, ⟨#[]⟩)
/-- Words held against places. -/
def fillRG (PL WL : List T) (k : Nat) : Int × Ins :=
  if WL.length ≠ PL.length then (2, ins00)
  else match fillG PL WL (ins0 k) with
    | some i => (0, i)
    | none => (2, ins00)
theorem fillRG_fillR (k : Nat) (l : List T) : fillRG (placesT k) l k = fillR k l := rfl
theorem text_eq (p q : T) : ((ofT p).toList == q) = decide (p = q) := by
  rw [ByteArray.toList_eq]
  show ((ofT p).data.toList == q) = _
  rw [show (ofT p).data.toList = p from keyT_ofT p]
  by_cases h : p = q
  · simp [h]
  · simp [h]
theorem getD_map_ofT {l : List T} {j : Nat} (h : j < l.length) : (l.map ofT).getD j default = ofT (l.getD j []) := by
  simp [List.getD, h]
theorem drop_getD {l : List T} {j : Nat} (h : j < l.length) : l.drop j = l.getD j [] :: l.drop (j + 1) := by
  rw [List.drop_eq_getElem_cons h]
  simp [List.getD, h]
/-- One step of the filling. -/
theorem fill_next {PL WL : List T} {k j : Nat} {i : Ins} (h : fillG PL WL (ins0 k) = fillG (PL.drop j) (WL.drop j) i) (hp : j < PL.length) (hw : j < WL.length) :
    (∀ i', fillStep (PL.getD j []) (WL.getD j []) i = some i' → fillG PL WL (ins0 k) = fillG (PL.drop (j + 1)) (WL.drop (j + 1)) i') ∧ (fillStep (PL.getD j []) (WL.getD j []) i = none → fillG PL WL (ins0 k) = none) := by
  rw [drop_getD hp, drop_getD hw, fillG] at h
  exact ⟨fun i' e => by rw [h, e]; rfl, fun e => by rw [h, e]; rfl⟩
theorem fill_end {PL WL : List T} {k j : Nat} {i : Ins} (h : fillG PL WL (ins0 k) = fillG (PL.drop j) (WL.drop j) i) (hw : WL.length ≤ j) : fillG PL WL (ins0 k) = some i := by
  rw [h, List.drop_of_length_le hw]
  cases PL.drop j <;> rfl
theorem fillStep_other {p w : T} {i : Ins} (h1 : p ≠ pA) (h2 : p ≠ pB) (h3 : p ≠ pN) (h4 : p ≠ pK) : fillStep p w i = some i := by
  unfold fillStep; rw [if_neg h1, if_neg h2, if_neg h3, if_neg h4]

theorem fill_results (tmps : Array Value) (b : Nat) (w : World) {i : Ins} {e : Int} (h6 : tmps.getD 6 undef = .pointer (some ⟨b, 0, none⟩)) (h7 : tmps.getD 7 undef = .int .i64 e) (h : InsAt w b i) :
    (results Tryz.f158 tmps).run Tryz.prog w = .ok (.tuple #[insV i, .int .i64 e]) w := by
  have h6' : tmps[6]?.getD undef = .pointer (some ⟨b, 0, none⟩) := by simpa using h6
  have h7' : tmps[7]?.getD undef = .int .i64 e := by simpa using h7
  simp [results, Tryz.results158, go_sem, h6', h7', h.c0, h.c1, h.c2, h.c3, h.c4, insV]

/-- The state between two rounds. -/
structure Fills (w wr : World) (PL WL : List T) (k j : Nat) (i : Ins) : Prop where
  sofar : fillG PL WL (ins0 k) = fillG (PL.drop j) (WL.drop j) i
  here : InsAt wr (w.heap.size + 1) i
  res : InsAt wr w.heap.size ins00
  bel : Below w.heap.size w wr

set_option maxHeartbeats 4000000 in
theorem fill_calls (PL WL : List T) (k : Nat) (pb : Option Addr) (pn pc : Nat) (wb : Option Addr) (wn wc : Nat) (w : World) (hG : Ground w) (hp : Texts w pb pn pc (PL.map ofT)) (hw : Texts w wb wn wc (WL.map ofT)) (hs : ∀ x ∈ WL, x.length ≤ 100000) :
    Calls Tryz.prog 158 #[.int .i64 k, .slice pb pn pc, .slice wb wn wc] w fun e w' => e = .returned (.tuple #[insV (fillRG PL WL k).2, .int .i64 (fillRG PL WL k).1]) ∧ Below w.heap.size w w' := by
  have hpn : pn = PL.length := by have := Texts.count hp; simpa using this
  have hwn : wn = WL.length := by have := Texts.count hw; simpa using this
  have HPN := hid hpn
  have HWN := hid hwn
  have hm1 := Nat.le_trans hp.hdr.le hp.hdr.max
  have hm2 := Nat.le_trans hw.hdr.le hw.hdr.max
  unfold maxLen at hm1 hm2
  by_cases hne : wn = pn
  case neg =>
    have HF : Hid (fillRG PL WL k = (2, ins00)) := by show _ = _; unfold fillRG; rw [if_pos (by omega)]
    rw [HF.out]
    have hd : ((wn : Int) != (pn : Int)) = true := by simpa using fun e => hne (by omega)
    clear hne hpn hwn hp hw
    go_enter Tryz.func158, Tryz.ntmps158
    go_wp2
    (try simp only [Exit.inBlock, Exit.then])
    refine bodyPost_ret (fill_results _ w.heap.size _ rfl rfl (five_new w ins00 _)) rfl ?_
    exact ⟨rfl, grew _ _⟩
  case pos =>
    subst hne
    have HF0 : Hid (fillRG PL WL k = match fillG PL WL (ins0 k) with | some i => (0, i) | none => (2, ins00)) := by
      show _ = _; unfold fillRG; rw [if_neg (by omega)]
    generalize fillRG PL WL k = q at *
    have HP := hid hp
    have HW := hid hw
    have HG := hid hG
    have HS := hid hs
    have hd : ((wn : Int) != (wn : Int)) = false := by simp
    clear hp hw hG hs hpn hwn
    go_enter Tryz.func158, Tryz.ntmps158
    go_wp2
    go_loopw [22] (fun c wr => ∃ (j : Nat) (i : Ins), j ≤ wn ∧ c = .int .i64 j ∧ Hid (Fills w wr PL WL k j i)) (fun c _ => wn - (intOf c).toNat)
    case atStart =>
      refine ⟨0, ins0 k, Nat.zero_le _, rfl, ?_⟩
      refine ⟨rfl, ?_, (five_new w ins00 _).below (grew _ _), below_deep (grew _ _) (grew _ _)⟩
      have := five_new (w.alloc (.cells #[.int .i64 0, .int .i64 0, .int .i64 0, .int .i64 0, .string ⟨#[]⟩] 101)) (ins0 k) 101
      rw [World.size_alloc] at this
      exact this
    case round =>
      obtain ⟨j, i, hj, rfl, HL⟩ := hrel
      by_cases hlt : j < wn
      case neg =>
        obtain rfl : j = wn := by omega
        have HE : Hid (q = (0, i)) := by
          show _ = _
          rw [HF0.out, fill_end HL.out.sofar (by have := HWN.out; omega)]
        have HR := hid (HL.out.res.all i)
        have HB := hid (below_five HL.out.bel (Nat.le_refl _) i)
        obtain ⟨a0, a1, a2, a3, a4, af⟩ := HL.out.here
        obtain ⟨b0, b1, b2, b3, b4, bf⟩ := HL.out.res
        have bf0 := bf 0
        have bf1 := bf 1
        have bf2 := bf 2
        have bf3 := bf 3
        have bf4 := bf 4
        clear af bf
        go_wp2
        (try simp only [Exit.inBlock, Exit.then])
        refine bodyPost_ret (fill_results _ w.heap.size _ rfl rfl HR.out) rfl ?_
        exact ⟨by rw [HE.out], HB.out⟩
      case pos =>
        have hpl : j < PL.length := by have := HPN.out; omega
        have hwl : j < WL.length := by have := HWN.out; omega
        obtain ⟨b1, o1, e1, r1⟩ : ∃ b o, pb = some ⟨b, o, none⟩ ∧ Run w b o (strs (PL.map ofT)) := by
          rcases HP.out.run with h | h
          · omega
          · exact h
        obtain ⟨b2, o2, e2, r2⟩ : ∃ b o, wb = some ⟨b, o, none⟩ ∧ Run w b o (strs (WL.map ofT)) := by
          rcases HW.out.run with h | h
          · omega
          · exact h
        subst e1
        subst e2
        have hb1 : b1 < w.heap.size := r1.lt (by rw [strs_length, List.length_map]; omega)
        have hb2 : b2 < w.heap.size := r2.lt (by rw [strs_length, List.length_map]; omega)
        have c1 := r1.below HL.out.bel hb1 j _ (strs_at (by rw [List.length_map]; exact hpl))
        have c2 := r2.below HL.out.bel hb2 j _ (strs_at (by rw [List.length_map]; exact hwl))
        rw [getD_map_ofT hpl] at c1
        rw [getD_map_ofT hwl] at c2
        have hi : (j : Int) < (wn : Int) := by omega
        have HN := hid (fill_next HL.out.sofar hpl hwl)
        have hz : (ofT (WL.getD j [])).size ≤ 100000 := by
          rw [ofT_size]; exact HS.out _ (by simp [List.getD, hwl])
        clear r1 r2 hb1 hb2 hpl hwl
        generalize PL.getD j [] = p at *
        generalize WL.getD j [] = x at *
        have HZ := hid hz
        clear hz
        by_cases hA : p = pA
        · subst hA
          have sA : ((ofT pA).toList == [114, 65]) = true := by rw [text_eq]; rfl
          rw [fillStep_A] at HN
          have HR := hid (register_calls (ofT x) wr (HG.out.below HL.out.bel) HZ.out)
          rw [keyT_ofT] at HR
          generalize ofT pA = P at *
          generalize ofT x = X at *
          go_wp2_with fail
          refine HR.out.mono ?_
          rintro e w1 ⟨⟨v, rfl, hv⟩, hb3⟩
          have HI1 := hid (HL.out.here.below hb3)
          have HR1 := hid (HL.out.res.below hb3)
          have HB1 := hid (below_deep HL.out.bel hb3)
          have a1 := HI1.out.c1
          have af := HI1.out.free 1
          have HB2 := hid (HB1.out.setCell (p := ⟨w.heap.size + 1, 1, none⟩) (by simp) (.int .i64 v))
          have HR2 := hid (HR1.out.far (b' := w.heap.size + 1) (k := 1) (by omega) (.int .i64 v))
          cases ho : regOf x with
          | none =>
            rw [ho] at HN
            have HE : Hid (q = (2, ins00)) := by
              show _ = _
              rw [HF0.out, HN.out.2 rfl]
            have HR3 := hid (HR2.out.all ins00)
            have HB3 := hid (below_five HB2.out (Nat.le_refl _) ins00)
            obtain ⟨b0, b1, b2, b3, b4, bf⟩ := HR1.out
            have bf0 := bf 0
            have bf1 := bf 1
            have bf2 := bf 2
            have bf3 := bf 3
            have bf4 := bf 4
            clear bf hv hb3
            go_wp2
            (try simp only [Exit.inBlock, Exit.then])
            refine bodyPost_ret (fill_results _ w.heap.size _ rfl rfl HR3.out) rfl ?_
            exact ⟨by rw [HE.out], HB3.out⟩
          | some u =>
            obtain rfl := hv u ho
            rw [ho] at HN
            have HI2 := hid (HI1.out.put1 v)
            have HE := hid (HN.out.1 _ rfl)
            clear hv hb3
            go_wp2
            go_roundw
            case rel => exact ⟨j + 1, _, by omega, by go_num, ⟨HE.out, HI2.out, HR2.out, HB2.out⟩⟩
            case measure => simp [intOf]; omega
        by_cases hB : p = pB
        · subst hB
          have sA : ((ofT pB).toList == [114, 65]) = false := by rw [text_eq]; rfl
          have sB : ((ofT pB).toList == [114, 66]) = true := by rw [text_eq]; rfl
          rw [fillStep_B] at HN
          have HR := hid (register_calls (ofT x) wr (HG.out.below HL.out.bel) HZ.out)
          rw [keyT_ofT] at HR
          generalize ofT pB = P at *
          generalize ofT x = X at *
          go_wp2_with fail
          refine HR.out.mono ?_
          rintro e w1 ⟨⟨v, rfl, hv⟩, hb3⟩
          have HI1 := hid (HL.out.here.below hb3)
          have HR1 := hid (HL.out.res.below hb3)
          have HB1 := hid (below_deep HL.out.bel hb3)
          have a1 := HI1.out.c2
          have af := HI1.out.free 2
          have HB2 := hid (HB1.out.setCell (p := ⟨w.heap.size + 1, 2, none⟩) (by simp) (.int .i64 v))
          have HR2 := hid (HR1.out.far (b' := w.heap.size + 1) (k := 2) (by omega) (.int .i64 v))
          cases ho : regOf x with
          | none =>
            rw [ho] at HN
            have HE : Hid (q = (2, ins00)) := by
              show _ = _
              rw [HF0.out, HN.out.2 rfl]
            have HR3 := hid (HR2.out.all ins00)
            have HB3 := hid (below_five HB2.out (Nat.le_refl _) ins00)
            obtain ⟨b0, b1, b2, b3, b4, bf⟩ := HR1.out
            have bf0 := bf 0
            have bf1 := bf 1
            have bf2 := bf 2
            have bf3 := bf 3
            have bf4 := bf 4
            clear bf hv hb3
            go_wp2
            (try simp only [Exit.inBlock, Exit.then])
            refine bodyPost_ret (fill_results _ w.heap.size _ rfl rfl HR3.out) rfl ?_
            exact ⟨by rw [HE.out], HB3.out⟩
          | some u =>
            obtain rfl := hv u ho
            rw [ho] at HN
            have HI2 := hid (HI1.out.put2 v)
            have HE := hid (HN.out.1 _ rfl)
            clear hv hb3
            go_wp2
            go_roundw
            case rel => exact ⟨j + 1, _, by omega, by go_num, ⟨HE.out, HI2.out, HR2.out, HB2.out⟩⟩
            case measure => simp [intOf]; omega
        by_cases hN : p = pN
        · subst hN
          have sA : ((ofT pN).toList == [114, 65]) = false := by rw [text_eq]; rfl
          have sB : ((ofT pN).toList == [114, 66]) = false := by rw [text_eq]; rfl
          have sN : ((ofT pN).toList == [110]) = true := by rw [text_eq]; rfl
          rw [fillStep_N] at HN
          have HR := hid (number_calls (ofT x) wr (HG.out.below HL.out.bel) HZ.out)
          rw [keyT_ofT] at HR
          generalize ofT pN = P at *
          generalize ofT x = X at *
          go_wp2_with fail
          refine HR.out.mono ?_
          rintro e w1 ⟨⟨v, rfl, hv⟩, hb3⟩
          have HI1 := hid (HL.out.here.below hb3)
          have HR1 := hid (HL.out.res.below hb3)
          have HB1 := hid (below_deep HL.out.bel hb3)
          have a1 := HI1.out.c3
          have af := HI1.out.free 3
          have HB2 := hid (HB1.out.setCell (p := ⟨w.heap.size + 1, 3, none⟩) (by simp) (.int .i64 v))
          have HR2 := hid (HR1.out.far (b' := w.heap.size + 1) (k := 3) (by omega) (.int .i64 v))
          cases ho : numOf x with
          | none =>
            rw [ho] at HN
            have HE : Hid (q = (2, ins00)) := by
              show _ = _
              rw [HF0.out, HN.out.2 rfl]
            have HR3 := hid (HR2.out.all ins00)
            have HB3 := hid (below_five HB2.out (Nat.le_refl _) ins00)
            obtain ⟨b0, b1, b2, b3, b4, bf⟩ := HR1.out
            have bf0 := bf 0
            have bf1 := bf 1
            have bf2 := bf 2
            have bf3 := bf 3
            have bf4 := bf 4
            clear bf hv hb3
            go_wp2
            (try simp only [Exit.inBlock, Exit.then])
            refine bodyPost_ret (fill_results _ w.heap.size _ rfl rfl HR3.out) rfl ?_
            exact ⟨by rw [HE.out], HB3.out⟩
          | some u =>
            obtain rfl := hv u ho
            rw [ho] at HN
            have HI2 := hid (HI1.out.put3 v)
            have HE := hid (HN.out.1 _ rfl)
            clear hv hb3
            go_wp2
            go_roundw
            case rel => exact ⟨j + 1, _, by omega, by go_num, ⟨HE.out, HI2.out, HR2.out, HB2.out⟩⟩
            case measure => simp [intOf]; omega
        by_cases hK : p = pK
        · subst hK
          have sA : ((ofT pK).toList == [114, 65]) = false := by rw [text_eq]; rfl
          have sB : ((ofT pK).toList == [114, 66]) = false := by rw [text_eq]; rfl
          have sN : ((ofT pK).toList == [110]) = false := by rw [text_eq]; rfl
          have sK : ((ofT pK).toList == [107, 101, 121]) = true := by rw [text_eq]; rfl
          rw [fillStep_K] at HN
          have a1 := HL.out.here.c4
          have af := HL.out.here.free 4
          have HI2 := hid (HL.out.here.put4 (ofT x))
          have HE := hid (HN.out.1 _ rfl)
          have HB2 := hid (HL.out.bel.setCell (p := ⟨w.heap.size + 1, 4, none⟩) (by simp) (.string (ofT x)))
          have HR2 := hid (HL.out.res.far (b' := w.heap.size + 1) (k := 4) (by omega) (.string (ofT x)))
          generalize ofT pK = P at *
          generalize ofT x = X at *
          go_wp2
          go_roundw
          case rel => exact ⟨j + 1, _, by omega, by go_num, ⟨HE.out, HI2.out, HR2.out, HB2.out⟩⟩
          case measure => simp [intOf]; omega
        have sA : ((ofT p).toList == [114, 65]) = false := by rw [text_eq]; exact decide_eq_false hA
        have sB : ((ofT p).toList == [114, 66]) = false := by rw [text_eq]; exact decide_eq_false hB
        have sN : ((ofT p).toList == [110]) = false := by rw [text_eq]; exact decide_eq_false hN
        have sK : ((ofT p).toList == [107, 101, 121]) = false := by rw [text_eq]; exact decide_eq_false hK
        rw [fillStep_other hA hB hN hK] at HN
        have HE := hid (HN.out.1 _ rfl)
        clear hA hB hN hK
        generalize ofT p = P at *
        go_wp2
        go_roundw
        case rel => exact ⟨j + 1, _, by omega, by go_num, ⟨HE.out, HL.out.here, HL.out.res, HL.out.bel⟩⟩
        case measure => simp [intOf]; omega
end Go.Proofs.YthmkgfdglkdjmadGreatDoor
