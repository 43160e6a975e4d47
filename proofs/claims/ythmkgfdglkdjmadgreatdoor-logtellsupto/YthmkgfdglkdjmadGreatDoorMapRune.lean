/-
  The document's cut of a text at a text, its numbers, and its words.
  A map in memory whose keys are signs of a text (int32), and: a statement whose operations come up in whatever order, told by what holds between any two of them.
-/
import Derived.Test.YthmkgfdglkdjmadGreatDoorTextParts
import Derived.Test.YthmkgfdglkdjmadGreatDoorDeedTurn
import Derived.Orders
namespace Go.Proofs.YthmkgfdglkdjmadGreatDoor
open Go.RowKit

theorem extract_ofT (s : ByteArray) (a b : Nat) : s.extract a b = ofT (((keyT s).take b).drop a) := by
  apply keyT_eq
  rw [keyT_ofT]
  show (s.extract a b).data.toList = _
  rw [Lib.extract_data, List.drop_take]
  rfl
theorem extract_rest (s : ByteArray) (a : Nat) : s.extract a s.size = ofT ((keyT s).drop a) := by
  rw [extract_ofT, List.take_of_length_le (by rw [keyT_len]; exact Nat.le_refl _)]

theorem piece_eq {sep : T} {at' s : ByteArray} (hat : keyT at' = sep) (i : Nat) : ((s.extract i (i + at'.size)).toList == at'.toList) = decide (((keyT s).drop i).take sep.length = sep) := by
  have e1 : s.extract i (i + at'.size) = ofT (((keyT s).drop i).take sep.length) := by
    rw [extract_ofT, List.drop_take, ← hat, keyT_len, Nat.add_sub_cancel_left]
  have e2 : at' = ofT sep := by rw [← hat, ofT_keyT]
  rw [e1]
  conv => lhs; rw [e2]
  exact text_same _ _

set_option maxRecDepth 100000 in
set_option maxHeartbeats 4000000 in
theorem refSplit_calls {sep : T} {spl : T → T → List T} (hc : Cuts sep spl) (at' s : ByteArray) (w : World) (hat : keyT at' = sep) (hs : s.size ≤ 100000) (hz : at'.size ≤ 10) :
    Calls Tryz.prog 85 #[.string s, .string at'] w fun e w' => ∃ b o c, e = .returned (.slice (some ⟨b, o, none⟩) (spl [] (keyT s)).length c) ∧ Texts w' (some ⟨b, o, none⟩) (spl [] (keyT s)).length c ((spl [] (keyT s)).map ofT) ∧ Below w.heap.size w w' ∧ w.heap.size ≤ b := by
  have hlen := keyT_len s
  have hsl : sep.length = at'.size := by rw [← hat, keyT_len]
  have hp := hc.pos
  have HC := hid hc
  have HAT := hid hat
  have HLEN := hid hlen
  have HSL := hid hsl
  have hz1 : 1 ≤ at'.size := by omega
  obtain ⟨S, hS⟩ : ∃ S, S = keyT s := ⟨_, rfl⟩
  rw [← hS] at HLEN ⊢
  have HS := hid hS
  clear hc hat hlen hsl hp hS
  go_enter Tryz.func85, Tryz.ntmps85
  go_wp2
  go_loopw [5, 6, 7] (fun v f c wr => ∃ (fr i n : Nat) (L : List T), fr ≤ i ∧ i ≤ s.size ∧ n ≤ i ∧ f = .int .i64 fr ∧ c = .int .i64 i ∧ Hid (spl [] S = L ++ spl ((S.take i).drop fr) (S.drop i)) ∧ Hid (L.length = n) ∧ Hid (wr.ownsRow w.heap.size 9 1 v n (strs (L.map ofT))) ∧ Hid (Below w.heap.size w wr)) (fun _ _ c _ => s.size + 1 - (intOf c).toNat)
  case atStart => exact ⟨0, 0, 0, [], Nat.le_refl _, Nat.zero_le _, Nat.le_refl _, rfl, rfl, (by show _ = _; simp), rfl, World.ownsRow_nil _ _ _ _, Below.refl _ _⟩
  case round =>
    obtain ⟨fr, i, n, L, hfi, his, hni, rfl, rfl, HQ, HLN, HO, HB⟩ := hrel
    by_cases hlt : i + at'.size ≤ s.size
    case neg =>
      have HE := hid (HC.out.at_end (s := S) (k := fr) (i := i) hfi (by rw [HLEN.out]; exact his) (by rw [HLEN.out, HSL.out]; omega))
      have hgt : ¬ ((i : Int) + (at'.size : Int) ≤ (s.size : Int)) := by omega
      have HPC := hid (extract_rest s fr)
      have HOX := hid (HO.out.alloc (.cells #[.string (s.extract fr s.size)] 9))
      have HCX := hid (lies_one wr #[.string (s.extract fr s.size)] 9 1 rfl)
      have HLT := hid HOX.out.lt
      have B1 : Hid ((n + 1) * 16 ≤ 140737488355328) := by show _ ≤ _; omega
      have HFIN : Hid (spl [] S = L ++ [S.drop fr]) := by show _ = _; rw [HQ.out, HE.out]
      go_wp2_with (at_builtin; refine wpList_onto _ rfl _ _ 72 9 1 16 _ Tryz.underlying72 strInfo rfl (by decide) (by decide) rfl w.heap.size _ n _ rfl HOX.out _ 1 _ _ rfl HCX.out (strs_one [s.extract fr s.size]) B1.out (le_box HB.out.size) ?_)
      intro v1 w5 hown hg
      have HB5 := hid (HB.out.trans ((((Below.refl w.heap.size _).alloc HB.out.size (.cells #[.string (s.extract fr s.size)] 9))).grown hg (le_box HB.out.size) (fun y hy => (HLT.out y hy).1)))
      obtain ⟨b1, c1, rfl, hl1⟩ := Lies.owned hown
      have hfr := owns_fresh hown
      rcases hl1.run with h0 | ⟨bb, oo, rfl, hr⟩
      · omega
      have HF := hid hl1
      have HBB : Hid (w.heap.size ≤ bb) := hfr _ rfl
      clear hown hg hl1 hr hfr
      go_wp2
      go_ret
      have e1 : (spl [] S).length = n + 1 := by rw [HFIN.out, List.length_append, HLN.out]; rfl
      refine ⟨bb, oo, c1, by rw [e1]; rfl, ?_, HB5.out, HBB.out⟩
      show Lies _ _ _ _ _ (strs _)
      rw [e1, HFIN.out, List.map_append, strs_append, List.map_cons, List.map_nil, HS.out, ← HPC.out]
      exact HF.out
    case pos =>
      have hle : (i : Int) + (at'.size : Int) ≤ (s.size : Int) := by omega
      have hcmp := piece_eq (s := s) HAT.out i
      rw [← HS.out] at hcmp
      by_cases hh : (S.drop i).take sep.length = sep
      case pos =>
        have HE := hid (HC.out.at_hit (k := fr) hh)
        rw [decide_eq_true hh] at hcmp
        have HPC := hid (extract_ofT s fr i)
        have HOX := hid (HO.out.alloc (.cells #[.string (s.extract fr i)] 9))
        have HCX := hid (lies_one wr #[.string (s.extract fr i)] 9 1 rfl)
        have HLT := hid HOX.out.lt
        have B1 : Hid ((n + 1) * 16 ≤ 140737488355328) := by show _ ≤ _; omega
        clear hh
        go_wp2_with (at_builtin; refine wpList_onto _ rfl _ _ 72 9 1 16 _ Tryz.underlying72 strInfo rfl (by decide) (by decide) rfl w.heap.size _ n _ rfl HOX.out _ 1 _ _ rfl HCX.out (strs_one [s.extract fr i]) B1.out (le_box HB.out.size) ?_)
        intro v1 w5 hown hg
        have HB5 := hid (HB.out.trans ((((Below.refl w.heap.size _).alloc HB.out.size (.cells #[.string (s.extract fr i)] 9))).grown hg (le_box HB.out.size) (fun y hy => (HLT.out y hy).1)))
        have HO5 := hid hown
        clear hown hg
        go_wp2
        go_roundw
        case rel =>
          refine ⟨i + at'.size, i + at'.size, n + 1, L ++ [(S.take i).drop fr], Nat.le_refl _, by omega, by omega, by go_num, by go_num, ?_, ?_, ?_, HB5.out⟩
          · show _ = _
            rw [HQ.out, HE.out, HSL.out, List.append_assoc]
            have : (S.take (i + at'.size)).drop (i + at'.size) = [] := List.drop_of_length_le (by rw [List.length_take]; exact Nat.min_le_left _ _)
            rw [this]; rfl
          · show _ = _
            rw [List.length_append, HLN.out]; rfl
          · show World.ownsRow _ _ _ _ _ _ _
            rw [List.map_append, strs_append, List.map_cons, List.map_nil, HS.out, ← HPC.out]
            exact HO5.out
        case measure => simp [intOf]; omega
      case neg =>
        have HE := hid (HC.out.at_miss (k := fr) hfi (by rw [HLEN.out, HSL.out]; exact hlt) hh)
        rw [decide_eq_false hh] at hcmp
        clear hh
        go_wp2
        go_roundw
        case rel => exact ⟨fr, i + 1, n, L, by omega, by omega, by omega, rfl, by go_num, (by show _ = _; rw [HQ.out, HE.out]), HLN, HO, HB⟩
        case measure => simp [intOf]; omega

set_option maxHeartbeats 1000000 in
theorem refNum_calls (s : ByteArray) (w : World) (hG : GroundN w) (hs : s.size ≤ 100000) :
    Calls Tryz.prog 86 #[.string s] w fun e w' => Told (numOf (keyT s)) e ∧ Below w.heap.size w w' := by
  have HA := hid (atoi_calls s w hG hs)
  have HG := hid hG
  clear hG
  generalize hq : numOf (keyT s) = q
  have HQ := hid hq
  clear hq
  go_enter Tryz.func86, Tryz.ntmps86
  go_wp2_with fail
  refine HA.out.mono ?_
  rintro e w1 ⟨⟨v, hv, rfl⟩ | ⟨v, t, p, hv, rfl⟩, hb⟩
  · have hbd := Lib.atoiAll_bounds hv
    have HI := hid (itoa_calls v w1 (HG.out.below hb) hbd.1 hbd.2)
    have HV := hid (told_ok hv)
    have HB := hid hb
    clear hv hb hbd
    by_cases hE : Lib.itoa v = keyT s
    · have hst := streq_true (itoa_eq hE)
      have HN := hid (HQ.out.symm.trans (HV.out.1 hE))
      clear hE
      generalize ofT (Lib.itoa v) = z at *
      go_wp2_with fail
      refine HI.out.mono ?_
      rintro e w2 ⟨rfl, hb2⟩
      have HB2 := hid hb2
      clear hb2
      go_wp2
      go_ret2
      refine ⟨⟨v, by rw [HN.out]; rfl, fun u hu => ?_⟩, below_deep HB.out HB2.out⟩
      rw [HN.out] at hu; exact Option.some.inj hu
    · have hst := streq_false (itoa_ne hE)
      have HN := hid (HQ.out.symm.trans (HV.out.2 hE))
      clear hE
      generalize ofT (Lib.itoa v) = z at *
      go_wp2_with fail
      refine HI.out.mono ?_
      rintro e w2 ⟨rfl, hb2⟩
      have HB2 := hid hb2
      clear hb2
      go_wp2
      go_ret2
      refine ⟨⟨v, by rw [HN.out]; rfl, fun u hu => ?_⟩, below_deep HB.out HB2.out⟩
      rw [HN.out] at hu; cases hu
  · have HN := hid (HQ.out.symm.trans (told_no hv))
    have HB := hid hb
    clear hv hb
    go_wp2
    go_ret2
    refine ⟨⟨v, by rw [HN.out]; rfl, fun u hu => ?_⟩, HB.out⟩
    rw [HN.out] at hu; cases hu

/-- The document's words of instructions. -/
def wordsL : List ByteArray := [⟨#[]⟩, ⟨#[108, 111, 97, 100]⟩, ⟨#[99, 111, 110, 115, 116]⟩, ⟨#[97, 100, 100]⟩, ⟨#[115, 117, 98]⟩, ⟨#[109, 117, 108]⟩, ⟨#[115, 116, 111, 114, 101]⟩, ⟨#[100, 114, 111, 112]⟩, ⟨#[115, 107, 105, 112]⟩, ⟨#[102, 97, 105, 108]⟩]
theorem wordsL_at {k : Nat} (h : k < 10) : wordsL.getD k default = ofT (word k) := by
  have : k = 0 ∨ k = 1 ∨ k = 2 ∨ k = 3 ∨ k = 4 ∨ k = 5 ∨ k = 6 ∨ k = 7 ∨ k = 8 ∨ k = 9 := by omega
  rcases this with rfl | rfl | rfl | rfl | rfl | rfl | rfl | rfl | rfl | rfl <;> rfl
theorem words_calls (w : World) : Calls Tryz.prog 78 #[] w fun e w' => e = .returned (.slice (some ⟨w.heap.size, 0, none⟩) 10 10) ∧ Pieces w w' wordsL := by
  go_enter Tryz.func78, Tryz.ntmps78
  go_wp2
  go_ret
  exact ⟨rfl, ⟨rfl⟩⟩
theorem word_cell {w w' : World} (h : Pieces w w' wordsL) {k : Nat} (hk : k < 10) : w'.cell? ⟨w.heap.size, k, none⟩ = some (.string (ofT (word k))) := by
  have := pieces_cell h (j := k) hk
  rwa [wordsL_at hk] at this
theorem no_results (tmps : Array Value) (b : Nat) (w : World) {e : Int} (h2 : tmps.getD 2 undef = .pointer (some ⟨b, 0, none⟩)) (h3 : tmps.getD 3 undef = .int .i64 e) (h : w.cell? ⟨b, 0, none⟩ = some (.slice none 0 0) ∧ w.cell? ⟨b, 1, none⟩ = some (.slice none 0 0) ∧ w.cell? ⟨b, 2, none⟩ = some (.slice none 0 0)) :
    (results Tryz.f84 tmps).run Tryz.prog w = .ok (.tuple #[.agg #[.slice none 0 0, .slice none 0 0, .slice none 0 0], .int .i64 e]) w := by
  have h2' : tmps[2]?.getD undef = .pointer (some ⟨b, 0, none⟩) := by simpa using h2
  have h3' : tmps[3]?.getD undef = .int .i64 e := by simpa using h3
  simp [results, Tryz.results84, go_sem, h2', h3', h.1, h.2.1, h.2.2]
/-- The document's no. -/
theorem refNo_calls (e : Int) (w : World) : Calls Tryz.prog 84 #[.int .i64 e] w fun x w' => x = .returned (.tuple #[.agg #[.slice none 0 0, .slice none 0 0, .slice none 0 0], .int .i64 e]) ∧ Below w.heap.size w w' := by
  go_enter Tryz.func84, Tryz.ntmps84
  go_wp2
  refine bodyPost_ret (no_results _ w.heap.size _ rfl rfl ⟨box_cell _ _ _ _ _ rfl, box_cell _ _ _ _ _ rfl, box_cell _ _ _ _ _ rfl⟩) rfl ?_
  exact ⟨rfl, grew _ _⟩
end Go.Proofs.YthmkgfdglkdjmadGreatDoor

namespace Go.Proofs.YthmkgfdglkdjmadGreatDoor
open Go.RowKit

def runeLit (k : Int) : Lit := .int .i32 k
theorem runeLit_inj {a b : Int} (h : runeLit a = runeLit b) : a = b := by simpa [runeLit] using h
theorem runeLit_is (k : Int) : WideAt.IsKeyLit (runeLit k) := by simp [runeLit, WideAt.IsKeyLit]
/-- Block b is a map of at most n entries that has, at each key, what f tells. -/
def MapR (w : World) (b n : Nat) (f : Int → Option Value) : Prop :=
  ∃ D : DataW Value, w.ownsMap Tryz.prog 21 asIs b n D ∧ (∀ k, f k = none → Maps.has D (runeLit k) = false) ∧ (∀ k v, f k = some v → Maps.has D (runeLit k) = true ∧ ∀ z, D.atKey (runeLit k) z = .held v)
theorem MapR.made (w : World) : MapR (w.alloc (.map #[] 0)) w.heap.size 0 (fun _ => none) :=
  ⟨_, World.ownsMap_made w _ _ _, fun _ _ => rfl, fun _ _ h => by cases h⟩
theorem MapR.lt {w : World} {b n : Nat} {f : Int → Option Value} (h : MapR w b n f) : b < w.heap.size := by
  obtain ⟨D, h, _⟩ := h; exact h.lt
theorem MapR.block {w w' : World} {b n : Nat} {f : Int → Option Value} (h : MapR w b n f) (hb : w'.heap[b]? = w.heap[b]?) : MapR w' b n f := by
  obtain ⟨D, ⟨es, clock, h1, h2⟩, r⟩ := h
  exact ⟨D, ⟨es, clock, hb.trans h1, h2⟩, r⟩
theorem MapR.below {w w' : World} {b n : Nat} {f : Int → Option Value} (h : MapR w b n f) (hb : Below w.heap.size w w') : MapR w' b n f := h.block (hb.block b h.lt)
theorem rune_law : Maps.Keyed Tryz.prog 21 := Maps.int_keyed Tryz.underlying21
theorem rune_wf {k : Int} (h0 : 0 ≤ k) (h1 : k < 256) : (Lit.int .i32 k).wf = true := by
  simp [Lit.wf, IntKind.min, IntKind.max, IntKind.bits, IntKind.signed]; omega
/-- m[k]. -/
theorem MapR.get {w : World} {b n : Nat} {f : Int → Option Value} (h : MapR w b n f) {t e : TypeId} (ht : Tryz.prog.underlying t = some (.map 21 e)) {z : Value} (hz : (zeroValue e).run Tryz.prog w = .ok z w) {k : Int} (h0 : 0 ≤ k) (h1 : k < 256) :
    (Instr.lookup t (.map (some b)) (.int .i32 k) false).run Tryz.prog w = .ok ((f k).getD z) w := by
  obtain ⟨D, h, g0, g1⟩ := h
  obtain ⟨v, ps, hr, hv⟩ := h.lookup rune_law ht hz (zd := .held z) (zp := []) rfl (Maps.keyOf_int_mk Tryz.underlying21 (rune_wf h0 h1))
  rw [hr]
  simp only [asIs, Option.some.injEq, Prod.mk.injEq] at hv
  cases hf : f k with
  | none =>
    have e1 : DataW.held v = .held z := by rw [hv.1]; exact Maps.atKey_of_not_has (g0 k hf) (.held z)
    cases e1; rfl
  | some u =>
    have e1 : DataW.held v = .held u := by rw [hv.1]; exact (g1 k u hf).2 _
    cases e1; rfl
/-- m[k] = v. -/
theorem MapR.put {w : World} {b n : Nat} {f : Int → Option Value} (h : MapR w b n f) {t e : TypeId} (ht : Tryz.prog.underlying t = some (.map 21 e)) (hn : n < maxLen) {k : Int} (k0 : 0 ≤ k) (k1 : k < 256) (v : Value) :
    ∃ w', (Instr.mapUpdate t (.map (some b)) (.int .i32 k) v).run Tryz.prog w = .ok () w' ∧ MapR w' b (n + 1) (fun j => if j = k then some v else f j) ∧ w.grownBy w' (some b) := by
  obtain ⟨D, h, h0, h1⟩ := h
  obtain ⟨w', hr, ho, hg⟩ := h.update rune_law ht hn (Maps.keyOf_int_mk Tryz.underlying21 (rune_wf k0 k1)) (val := v) (d := .held v) (ps := []) rfl
  rw [show Lit.int .i32 k = runeLit k from rfl] at ho
  refine ⟨w', hr, ⟨_, ho, fun j hj => ?_, fun j u hj => ?_⟩, hg⟩
  · by_cases e : j = k
    · simp [e] at hj
    · simp only [if_neg e] at hj
      rw [Maps.has_put_other (fun x => e (runeLit_inj x))]
      exact h0 j hj
  · by_cases e : j = k
    · subst e
      simp at hj
      subst hj
      exact ⟨Maps.has_put_same h.isMap (runeLit_is _) _, fun z => Maps.atKey_put_same h.isMap (runeLit_is _) _ z⟩
    · simp only [if_neg e] at hj
      obtain ⟨g1, g2⟩ := h1 j u hj
      exact ⟨by rw [Maps.has_put_other (fun x => e (runeLit_inj x))]; exact g1, fun z => by rw [Maps.atKey_put_other (fun x => e (runeLit_inj x))]; exact g2 z⟩

/-! ### Whatever order -/
/-- How many have not come up yet. -/
def left (listed : Array Bool) : Nat := listed.toList.count false
theorem left_set {listed : Array Bool} {i : Nat} (h : listed.getD i true = false) : left (listed.setIfInBounds i true) + 1 = left listed := by
  unfold left
  obtain ⟨l⟩ := listed
  have hi : i < l.length := by
    by_cases hl : i < l.length
    · exact hl
    · simp [hl] at h
  have h0 : l[i] = false := by simpa [hi] using h
  simp only [List.setIfInBounds_toArray]
  rw [List.count_set (by simpa using hi)]
  have hp : 0 < l.count false := List.count_pos_iff.2 (by rw [← h0]; exact List.getElem_mem hi)
  simp [h0]
  omega
theorem ready_unlisted {md : Region.Mode} {ops : Array Oper} {listed : Array Bool} {i : Nat} (h : i ∈ Region.ready md ops listed) : listed.getD i true = false := by
  unfold Region.ready at h
  simp only [List.mem_filter, Bool.and_eq_true, Bool.not_eq_true'] at h
  exact h.2.1
/-- What holds at the beginning, and is kept by each operation that may come up, holds at the end, whatever the order. -/
theorem wpAny_inv {P : Program} {ops : Array Oper} {Q : Exit → Act → World → Prop} {md : Region.Mode} (Inv : Array Bool → Act → World → Prop)
    (step : ∀ listed a w i, Inv listed a w → i ∈ Region.ready md ops listed → wpOp P ops Q i (Inv (listed.setIfInBounds i true)) a w)
    (done : ∀ listed a w, Inv listed a w → Region.ready md ops listed = [] → Q .normal a w) :
    ∀ (fuel : Nat) (listed : Array Bool) (a : Act) (w : World), left listed ≤ fuel → Inv listed a w → wpAny P md ops Q fuel listed a w
  | 0, listed, a, w, hf, h => by
    have hr : Region.ready md ops listed = [] := by
      apply List.eq_nil_iff_forall_not_mem.2
      intro i hi
      have := left_set (ready_unlisted hi)
      omega
    exact ⟨hr, done _ _ _ h hr⟩
  | fuel + 1, listed, a, w, hf, h => by
    refine ⟨done _ _ _ h, fun i hi => ?_⟩
    refine wpOp_mono (fun a' w' h' => wpAny_inv Inv step done fuel _ a' w' ?_ h') (step _ _ _ i h hi)
    have := left_set (ready_unlisted hi)
    omega
end Go.Proofs.YthmkgfdglkdjmadGreatDoor
