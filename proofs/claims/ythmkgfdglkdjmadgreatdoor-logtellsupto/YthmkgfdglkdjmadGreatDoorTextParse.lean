/-
  The program's way from a text to a deed.
-/
import Derived.Test.YthmkgfdglkdjmadGreatDoorTextParts
namespace Go.Proofs.YthmkgfdglkdjmadGreatDoor
open Go.RowKit

theorem readT_long {s : T} (h : 400 < s.length) : readT s = (4, [], [], []) := by unfold readT; rw [if_pos h]
theorem readT_few {s : T} (h : s.length ≤ 400) (h2 : (spl2 [] s).length < 2) : readT s = (8, [], [], []) := by
  unfold readT; rw [if_neg (by omega)]
  cases e : spl2 [] s with
  | nil => rfl
  | cons p l =>
    cases l with
    | nil => rfl
    | cons p1 ps => rw [e] at h2; simp only [List.length_cons] at h2; omega
theorem read_core (a b : T) (R W : List ByteArray) (r : Int × List Ins) {P Q : Int × List ByteArray × List ByteArray × List Ins}
    (hP : P = if a = wReads ∧ b = wWrites then (if r.1 = 0 then (0, R, W, r.2) else (r.1, [], [], [])) else (2, [], [], []))
    (hQ : Q = if a ≠ wReads then (2, [], [], []) else if b ≠ wWrites then (2, [], [], []) else match r with
      | (0, C) => if wDeed R W C = 0 then (0, R, W, C) else (wDeed R W C, [], [], [])
      | (e, _) => (e, [], [], [])) :
    (P.1 ≠ 0 → Q = (P.1, [], [], []) ∧ P.2 = ([], [], [])) ∧ (P.1 = 0 → (wDeed P.2.1 P.2.2.1 P.2.2.2 = 0 → Q = P) ∧ (wDeed P.2.1 P.2.2.1 P.2.2.2 ≠ 0 → Q = (wDeed P.2.1 P.2.2.1 P.2.2.2, [], [], []))) := by
  by_cases h0 : a = wReads
  · by_cases h1 : b = wWrites
    · rcases r with ⟨ec, C⟩
      rw [if_pos ⟨h0, h1⟩] at hP
      rw [if_neg (fun x => x h0), if_neg (fun x => x h1)] at hQ
      by_cases hc : ec = 0
      · subst hc
        rw [if_pos rfl] at hP
        subst hP hQ
        refine ⟨fun x => absurd rfl x, fun _ => ⟨fun x => ?_, fun x => ?_⟩⟩
        · exact if_pos x
        · exact if_neg x
      · rw [if_neg hc] at hP
        subst hP hQ
        refine ⟨fun _ => ⟨?_, rfl⟩, fun x => absurd x hc⟩
        split
        · rename_i C' e; exact absurd (congrArg Prod.fst e) hc
        · rename_i e' C' _ e; cases e; rfl
    · rw [if_neg (fun x => h1 x.2)] at hP
      rw [if_neg (fun x => x h0), if_pos h1] at hQ
      subst hP hQ
      exact ⟨fun _ => ⟨rfl, rfl⟩, fun x => absurd x (by decide)⟩
  · rw [if_neg (fun x => h0 x.1)] at hP
    rw [if_pos h0] at hQ
    subst hP hQ
    exact ⟨fun _ => ⟨rfl, rfl⟩, fun x => absurd x (by decide)⟩
theorem readT_parts {s : T} (h : s.length ≤ 400) (h2 : 2 ≤ (spl2 [] s).length) :
    ((readP (spl2 [] s)).1 ≠ 0 → readT s = ((readP (spl2 [] s)).1, [], [], []) ∧ (readP (spl2 [] s)).2 = ([], [], [])) ∧
    ((readP (spl2 [] s)).1 = 0 → (wDeed (readP (spl2 [] s)).2.1 (readP (spl2 [] s)).2.2.1 (readP (spl2 [] s)).2.2.2 = 0 → readT s = readP (spl2 [] s)) ∧
      (wDeed (readP (spl2 [] s)).2.1 (readP (spl2 [] s)).2.2.1 (readP (spl2 [] s)).2.2.2 ≠ 0 → readT s = (wDeed (readP (spl2 [] s)).2.1 (readP (spl2 [] s)).2.2.1 (readP (spl2 [] s)).2.2.2, [], [], []))) := by
  cases e : spl2 [] s with
  | nil => rw [e] at h2; simp at h2
  | cons p0 l =>
    cases l with
    | nil => rw [e] at h2; simp at h2
    | cons p1 ps =>
      refine read_core ((spl1 [] p0).headD []) ((spl1 [] p1).headD []) (((spl1 [] p0).drop 1).map ofT) (((spl1 [] p1).drop 1).map ofT) (readCode ps) rfl ?_
      unfold readT; rw [if_neg (by omega), e]
      rfl
theorem small_words {p : T} (h : p.length ≤ 400) : SmallT (((spl1 [] p).drop 1).map ofT) := by
  intro x hx
  obtain ⟨y, hy, rfl⟩ := List.mem_map.1 hx
  have := spl1_small p [] y (List.mem_of_mem_drop hy)
  rw [ofT_size]
  unfold maxLen
  simp at this; omega
theorem readP_small {s : T} (h : s.length ≤ 400) : SmallT (readP (spl2 [] s)).2.1 ∧ SmallT (readP (spl2 [] s)).2.2.1 := by
  have hp : ∀ j, ((spl2 [] s).getD j []).length ≤ 400 := fun j => by
    by_cases hj : j < (spl2 [] s).length
    · have := spl2_small s [] ((spl2 [] s).getD j []) (by simp [List.getD, hj])
      rw [List.length_nil, Nat.zero_add] at this; omega
    · simp [List.getD, hj]
  have h0 := small_words (hp 0)
  have h1 := small_words (hp 1)
  have hn : SmallT [] := fun _ h => by cases h
  unfold readP
  split
  · split
    · exact ⟨h0, h1⟩
    · exact ⟨hn, hn⟩
  · exact ⟨hn, hn⟩

theorem parse_results (tmps : Array Value) (b : Nat) (w : World) {p q r : Option Addr} {n1 c1 n2 c2 n3 c3 : Nat} {e : Int} (h2 : tmps.getD 2 undef = .pointer (some ⟨b, 0, none⟩)) (h3 : tmps.getD 3 undef = .int .i64 e) (h : DeedAt w b (.slice p n1 c1) (.slice q n2 c2) (.slice r n3 c3)) :
    (results Tryz.f83 tmps).run Tryz.prog w = .ok (.tuple #[.agg #[.slice p n1 c1, .slice q n2 c2, .slice r n3 c3], .int .i64 e]) w := by
  have h2' : tmps[2]?.getD undef = .pointer (some ⟨b, 0, none⟩) := by simpa using h2
  have h3' : tmps[3]?.getD undef = .int .i64 e := by simpa using h3
  simp [results, Tryz.results83, go_sem, h2', h3', h.c0, h.c1, h.c2]
theorem told_none {w w' : World} {q : Int × List ByteArray × List ByteArray × List Ins} {e : Int} (h : q = (e, [], [], [])) (hb : Below w.heap.size w w') : PartsTold w q (.returned (.tuple #[.agg #[.slice none 0 0, .slice none 0 0, .slice none 0 0], .int .i64 e])) w' :=
  ⟨none, 0, 0, none, 0, 0, none, 0, 0, by rw [h], by rw [h]; exact deed_none _, hb, fresh_none _, fresh_none _, fresh_none _⟩

set_option maxHeartbeats 8000000 in
theorem parse_calls (s : ByteArray) (w : World) (hG : Ground w) (hs : s.size ≤ maxLen) :
    Calls Tryz.prog 83 #[.string s] w fun e w' => PartsTold w (readT (keyT s)) e w' := by
  have hlen := keyT_len s
  unfold maxLen at hs
  by_cases h4 : 400 < s.size
  case pos =>
    have HQ := hid (readT_long (s := keyT s) (by omega))
    generalize readT (keyT s) = q at *
    have hd : decide ((s.size : Int) > 400) = true := by simpa using (by omega : (400 : Int) < s.size)
    go_enter Tryz.func83, Tryz.ntmps83
    go_wp2
    (try simp only [Exit.inBlock, Exit.then])
    refine bodyPost_ret (parse_results _ w.heap.size _ rfl rfl (three_new w (.slice none 0 0) (.slice none 0 0) (.slice none 0 0) 75)) rfl ?_
    exact told_none HQ.out (grew _ _)
  case neg =>
    have HS := hid (split2_calls s _ (hG.below (grew w (.cells #[.slice none 0 0, .slice none 0 0, .slice none 0 0] 75))) (by omega))
    rw [World.size_alloc] at HS
    have HG := hid hG
    have hle := spl2_len_le (keyT s) []
    have HSM : Hid (∀ x ∈ spl2 [] (keyT s), x.length ≤ 100000) := fun x hx => by
      have := spl2_small (keyT s) [] x hx
      simp at this; omega
    have HRS := hid (readP_small (s := keyT s) (by omega))
    have hd : decide ((s.size : Int) > 400) = false := by simpa using (by omega : (s.size : Int) ≤ 400)
    clear hG
    by_cases h2 : (spl2 [] (keyT s)).length < 2
    case pos =>
      have HQ := hid (readT_few (s := keyT s) (by omega) h2)
      generalize readT (keyT s) = q at *
      generalize spl2 [] (keyT s) = PT at *
      generalize PT.length = n at *
      have hd2 : decide ((n : Int) < 2) = true := by simpa using (by omega : (n : Int) < 2)
      go_enter Tryz.func83, Tryz.ntmps83
      go_wp2_with fail
      refine HS.out.mono ?_
      rintro e w1 ⟨rfl, hp⟩
      have HB := hid (below_deep (grew w _) hp.below)
      have HR := hid ((three_new w (.slice none 0 0) (.slice none 0 0) (.slice none 0 0) 75).below hp.below)
      obtain ⟨r0, r1, r2, rf⟩ := HR.out
      have f0 := rf 0
      have f1 := rf 1
      have f2 := rf 2
      clear rf hp
      go_wp2
      (try simp only [Exit.inBlock, Exit.then])
      refine bodyPost_ret (parse_results _ w.heap.size _ rfl rfl (HR.out.all (.slice none 0 0) (.slice none 0 0) (.slice none 0 0))) rfl ?_
      exact told_none HQ.out (below_three HB.out (Nat.le_refl _) _ _ _)
    case neg =>
      have HQ := hid (readT_parts (s := keyT s) (by omega) (by omega))
      generalize readT (keyT s) = q at *
      generalize spl2 [] (keyT s) = PT at *
      obtain ⟨m, hm⟩ : ∃ m, PT.length = m + 2 := ⟨PT.length - 2, by omega⟩
      rw [hm] at HS hle
      have HM := hid hm
      have hm4 : m ≤ 1000 := by omega
      have hd2 : decide ((((m + 2 : Nat) : Int)) < 2) = false := by simpa using (by omega : (2 : Int) ≤ ((m + 2 : Nat) : Int))
      clear hm h2 hle
      go_enter Tryz.func83, Tryz.ntmps83
      go_wp2_with fail
      refine HS.out.mono ?_
      rintro e w1 ⟨rfl, hp⟩
      have HB := hid (below_deep (grew w _) hp.below)
      have HR := hid ((three_new w (.slice none 0 0) (.slice none 0 0) (.slice none 0 0) 75).below hp.below)
      have ht := hp.texts (by rw [List.length_map, HM.out]; unfold maxLen; omega)
      rw [List.length_map, HM.out, World.size_alloc] at ht
      have HPP := hid (parseParts_calls PT (w.heap.size + 1) m w1 (HG.out.below HB.out) ht (by omega) HSM.out)
      clear hp ht
      generalize readP PT = p at *
      obtain ⟨pe, pR, pW, pC⟩ := p
      simp only at HQ HRS
      go_wp2_with fail
      refine HPP.out.mono ?_
      rintro e w2 ⟨rb, rn, rc, wb, wn, wc, cb, cn, cc, rfl, hdi, hb2, hfr, hfw, hfc⟩
      have HFR := hid hfr
      have HFW := hid hfw
      have HFC := hid hfc
      clear hfr hfw hfc
      have HLT1 : Hid (w.heap.size < w1.heap.size) := HR.out.lt
      simp only at hdi
      have HB2 := hid (below_deep HB.out hb2)
      have HDI := hid hdi
      have HR2 := hid (HR.out.below hb2)
      have hlt2 := HR2.out.lt
      obtain ⟨r0, r1, r2, rf⟩ := HR2.out
      have f0 := rf 0
      have f1 := rf 1
      have f2 := rf 2
      have HRX := hid ((HR2.out.all (.slice none 0 0) (.slice none 0 0) (.slice none 0 0)).below (grew _ (.cells #[.slice rb rn rc, .slice wb wn wc, .slice cb cn cc] 75)))
      clear rf hb2 hdi
      by_cases hpe : pe = 0
      case neg =>
        have HE := hid (HQ.out.1 hpe).1
        have hd3 : (pe == 0) = false := by simpa using hpe
        have hd4 : (pe != 0) = true := by simpa using hpe
        clear hpe
        go_wp2
        (try simp only [Exit.inBlock, Exit.then])
        refine bodyPost_ret (parse_results _ w.heap.size _ rfl rfl HRX.out) rfl ?_
        exact told_none HE.out (below_deep (below_three HB2.out (Nat.le_refl _) _ _ _) (grew _ _))
      case pos =>
        subst hpe
        have HE := hid (HQ.out.2 rfl)
        have HDX := hid (HDI.out.below (grew w2 (.cells #[.slice rb rn rc, .slice wb wn wc, .slice cb cn cc] 75)))
        have HWC := hid (wrongDeed_calls pR pW pC rb rn rc wb wn wc cb cn cc _ HDX.out HRS.out.1 HRS.out.2)
        generalize wDeed pR pW pC = wd at *
        go_wp2_with fail
        refine HWC.out.mono ?_
        rintro e w3 ⟨rfl, hb3⟩
        have HB3 := hid (below_deep (below_deep HB2.out (grew w2 (.cells #[.slice rb rn rc, .slice wb wn wc, .slice cb cn cc] 75))) hb3)
        have HR3 := hid ((HR2.out.below (grew w2 (.cells #[.slice rb rn rc, .slice wb wn wc, .slice cb cn cc] 75))).below hb3)
        have HD3 := hid (HDX.out.below hb3)
        have HA3 := hid ((three_new w2 (.slice rb rn rc) (.slice wb wn wc) (.slice cb cn cc) 75).below hb3)
        obtain ⟨x0, x1, x2, xf⟩ := HA3.out
        obtain ⟨r0, r1, r2, rf⟩ := HR3.out
        have f0 := rf 0
        have f1 := rf 1
        have f2 := rf 2
        clear rf xf hb3
        by_cases hwd : wd = 0
        case neg =>
          have HF := hid (HE.out.2 hwd)
          have hd4 : (wd != 0) = true := by simpa using hwd
          clear hwd
          go_wp2
          (try simp only [Exit.inBlock, Exit.then])
          refine bodyPost_ret (parse_results _ w.heap.size _ rfl rfl (HR3.out.all (.slice none 0 0) (.slice none 0 0) (.slice none 0 0))) rfl ?_
          exact told_none HF.out (below_three HB3.out (Nat.le_refl _) _ _ _)
        case pos =>
          subst hwd
          have HF := hid (HE.out.1 rfl)
          have HY := hid (HR3.out.all (.slice rb rn rc) (.slice wb wn wc) (.slice cb cn cc))
          go_wp2
          (try simp only [Exit.inBlock, Exit.then])
          refine bodyPost_ret (parse_results _ w.heap.size _ rfl rfl HY.out) rfl ?_
          have off : ∀ {base : Option Addr}, Fresh w1.heap.size base → (∀ a, base = some a → w.heap.size ≠ a.block) ∧ Fresh w.heap.size base := fun hf => by
            have h0 := HLT1.out
            exact ⟨fun a e => by have := hf a e; omega, fun a e => by have := hf a e; omega⟩
          refine ⟨rb, rn, rc, wb, wn, wc, cb, cn, cc, by rw [HF.out], ?_, below_three HB3.out (Nat.le_refl _) _ _ _, (off HFR.out).2, (off HFW.out).2, (off HFC.out).2⟩
          rw [HF.out]
          exact ⟨lies_offThree HD3.out.tr (off HFR.out).1 _ _ _, lies_offThree HD3.out.tw (off HFW.out).1 _ _ _, lies_offThree HD3.out.cd (off HFC.out).1 _ _ _⟩
end Go.Proofs.YthmkgfdglkdjmadGreatDoor
