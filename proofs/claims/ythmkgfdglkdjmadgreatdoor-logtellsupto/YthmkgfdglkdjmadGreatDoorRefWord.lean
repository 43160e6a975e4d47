/-
  The document adds one word to an instruction's text.
-/
import Derived.Test.YthmkgfdglkdjmadGreatDoorRefRegion
import Derived.Test.YthmkgfdglkdjmadGreatDoorInsAt
namespace Go.Proofs.YthmkgfdglkdjmadGreatDoor
open Go.RowKit

def putAll (a : Act) : List (Nat × Value) → Act
  | [] => a
  | (d, v) :: l => putAll (a.put (some d) v) l
theorem putAll_defers : ∀ (l : List (Nat × Value)) (a : Act), (putAll a l).defers = a.defers
  | [], _ => rfl
  | (d, v) :: l, a => by rw [putAll, putAll_defers l]; rfl
theorem putAll_off : ∀ (l : List (Nat × Value)) (a : Act) (s : Nat), s ∉ l.map (·.1) → (putAll a l).tmps[s]? = a.tmps[s]?
  | [], _, _, _ => rfl
  | (d, v) :: l, a, s, h => by
    simp only [List.map_cons, List.mem_cons, not_or] at h
    rw [putAll, putAll_off l _ s h.2]
    show (a.tmps.setIfInBounds d v)[s]? = _
    rw [Array.getElem?_setIfInBounds, if_neg (fun e => h.1 e.symm)]
theorem putAll_at : ∀ (l : List (Nat × Value)) (a : Act) (s : Nat) (v : Value), (l.map (·.1)).Nodup → (s, v) ∈ l → s < a.tmps.size → (putAll a l).tmps[s]? = some v
  | [], _, _, _, _, h, _ => by cases h
  | (d, u) :: l, a, s, v, hn, h, hs => by
    simp only [List.map_cons, List.nodup_cons] at hn
    rw [putAll]
    rcases List.mem_cons.1 h with e | e
    · obtain ⟨rfl, rfl⟩ : s = d ∧ v = u := by simpa using e
      rw [putAll_off l _ s hn.1]
      show (a.tmps.setIfInBounds s v)[s]? = _
      rw [Array.getElem?_setIfInBounds, if_pos rfl, if_pos hs]
    · exact putAll_at l _ s v hn.2 e (by simpa [Act.put] using hs)
/-- What is left at the end. -/
def lastP (Y : ByteArray) (I : Nat) (i : Ins) (c : UInt8) (m : Nat) : List (Nat × Value) :=
  [(60, valP Y I i c m 0), (61, valP Y I i c m 1), (62, valP Y I i c m 2), (63, valP Y I i c m 3), (64, valP Y I i c m 4), (65, valP Y I i c m 5), (66, valP Y I i c m 6), (67, valP Y I i c m 8), (68, valP Y I i c m 9), (69, valP Y I i c m 10), (70, valP Y I i c m 11),
   (71, valP Y I i c m 13), (72, valP Y I i c m 14), (73, valP Y I i c m 15), (74, valP Y I i c m 17), (75, valP Y I i c m 18), (76, valP Y I i c m 20), (77, valP Y I i c m 21), (78, valP Y I i c m 22), (79, valP Y I i c m 23), (3, valP Y I i c m 24)]
theorem PI.last {a0 : Act} {w0 : World} {Y : ByteArray} {I : Nat} {i : Ins} {c : UInt8} {l : Array Bool} {a : Act} {w : World} {m n : Nat} (h : PI a0 w0 Y I i c l a w m n) (hall : ∀ j, j < 25 → l.getD j false = true) (hsz : 80 ≤ a0.tmps.size) : a = putAll a0 (lastP Y I i c m) := by
  have key : ∀ j d, j < 25 → dstP j = some d → (d, valP Y I i c m j) ∈ lastP Y I i c m := by
    intro j d hj hd
    have : j = 0 ∨ j = 1 ∨ j = 2 ∨ j = 3 ∨ j = 4 ∨ j = 5 ∨ j = 6 ∨ j = 7 ∨ j = 8 ∨ j = 9 ∨ j = 10 ∨ j = 11 ∨ j = 12 ∨ j = 13 ∨ j = 14 ∨ j = 15 ∨ j = 16 ∨ j = 17 ∨ j = 18 ∨ j = 19 ∨ j = 20 ∨ j = 21 ∨ j = 22 ∨ j = 23 ∨ j = 24 := by omega
    rcases this with rfl | rfl | rfl | rfl | rfl | rfl | rfl | rfl | rfl | rfl | rfl | rfl | rfl | rfl | rfl | rfl | rfl | rfl | rfl | rfl | rfl | rfl | rfl | rfl | rfl <;> cases hd <;> simp [lastP]
  have hnd : ((lastP Y I i c m).map (·.1)).Nodup := by
    show [60, 61, 62, 63, 64, 65, 66, 67, 68, 69, 70, 71, 72, 73, 74, 75, 76, 77, 78, 79, 3].Nodup
    decide
  have hts : a.tmps = (putAll a0 (lastP Y I i c m)).tmps := by
    apply Array.ext_getElem?
    intro s
    by_cases hs : ∃ j, j < 25 ∧ dstP j = some s
    · obtain ⟨j, hj, hd⟩ := hs
      have hlt : s < 80 := by
        have : ∀ j, j < 25 → ∀ s, dstP j = some s → s < 80 := by
          intro j hj s hd
          have := key j s hj hd
          simp only [lastP, List.mem_cons, Prod.mk.injEq, List.not_mem_nil, or_false] at this
          omega
        exact this j hj s hd
      rw [h.vals j s hj hd (hall j hj), putAll_at _ a0 s _ hnd (key j s hj hd) (by omega)]
    · rw [h.frame s (fun j hj hd => hs ⟨j, hj, hd⟩), putAll_off]
      intro hm
      have : ∀ s ∈ [60, 61, 62, 63, 64, 65, 66, 67, 68, 69, 70, 71, 72, 73, 74, 75, 76, 77, 78, 79, 3], ∃ j, j < 25 ∧ dstP j = some s := by decide
      exact hs (this s hm)
  have hde : a.defers = (putAll a0 (lastP Y I i c m)).defers := by rw [putAll_defers]; exact h.defers
  cases a
  generalize putAll a0 (lastP Y I i c m) = q at *
  cases q
  simp only at hts hde
  subst hts hde
  rfl
/-- The check that these are they. -/
def okP (ops : Array Oper) : Bool := (List.range 25).all fun j => match ops[j]? with
  | some o => ((waitsP j).all fun k => o.after.any fun e => (e.on == k) && Region.binds .any e) && o.after.all (fun e => decide (e.on < j))
  | none => false
theorem isP_of {ops : Array Oper} (hs : ops.size = 25) (hi : ∀ j, j < 25 → ∃ o, ops[j]? = some o ∧ o.dst = (infoP j).1 ∧ o.op = (infoP j).2 ∧ o.guard = none) (hw : okP ops = true) : IsP ops := by
  have get : ∀ (j : Nat) (o : Oper), ops[j]? = some o → ((waitsP j).all fun k => o.after.any fun e => (e.on == k) && Region.binds .any e) = true ∧ o.after.all (fun e => decide (e.on < j)) = true := fun j o ho => by
    have hj : j < 25 := by
      have := (Array.getElem?_eq_some_iff.1 ho).1
      omega
    have := List.all_eq_true.1 hw j (List.mem_range.2 hj)
    rw [ho] at this
    simpa using this
  refine ⟨hs, hi, fun j o ho k hk => ?_, fun j o ho e he => ?_⟩
  · have := List.all_eq_true.1 (get j o ho).1 k hk
    obtain ⟨e, he, h⟩ := Array.any_eq_true'.1 this
    simp only [Bool.and_eq_true, beq_iff_eq] at h
    exact ⟨e, he, h.1, h.2⟩
  · have := Array.all_eq_true'.1 (get j o ho).2 e he
    simpa using this
/-- None may come up: all have. -/
theorem all_listed {ops : Array Oper} (hP : IsP ops) {l : Array Bool} (hs : l.size = 25) (h : Region.ready .any ops l = []) : ∀ j, j < 25 → l.getD j false = true := by
  intro j
  induction j using Nat.strongRecOn with
  | _ j ih =>
    intro hj
    cases e : l.getD j false with
    | true => rfl
    | false =>
      obtain ⟨o, ho, _⟩ := hP.info j hj
      have : j ∈ Region.ready .any ops l := mem_ready.2 ⟨by simp [hs, hj] at e ⊢; exact e, o, ho, fun x hx _ => ih _ (hP.back j o ho x hx) (by have := hP.back j o ho x hx; omega)⟩
      rw [h] at this; cases this

set_option maxHeartbeats 4000000 in
theorem word_step {ops : Array Oper} (hP : IsP ops) {Q : Exit → Act → World → Prop} {a0 : Act} {w0 : World} {Y : ByteArray} {I : Nat} {i : Ins} {c : UInt8} (hI : InsAt w0 I i) (hG : Ground w0) (ha : -9223372036854775808 ≤ i.a ∧ i.a ≤ 9223372036854775807) (hb : -9223372036854775808 ≤ i.b ∧ i.b ≤ 9223372036854775807) (hn : -9223372036854775808 ≤ i.n ∧ i.n ≤ 9223372036854775807)
    (h9 : a0.tmps[9]? = some (.pointer (some ⟨I, 0, none⟩))) (h11 : a0.tmps[11]? = some (.int .i32 c.toNat)) (hsz : 80 ≤ a0.tmps.size) (hY : Y.size ≤ 5000) (hV : (wordOf i c).size ≤ 5000) (hc : c = 114 ∨ c = 115 ∨ c = 110 ∨ c = 107)
    (l : Array Bool) (a : Act) (w : World) (j : Nat) (hinv : ∃ m n, PI a0 w0 Y I i c l a w m n) (hj : j ∈ Region.ready .any ops l) :
    wpOp Tryz.prog ops Q j (fun a w => ∃ m n, PI a0 w0 Y I i c (l.setIfInBounds j true) a w m n) a w := by
  obtain ⟨m, n, h⟩ := hinv
  have hu := ready_unlisted hj
  obtain ⟨_, o, ho, hdep⟩ := mem_ready.1 hj
  have hj25 : j < 25 := by
    have := (Array.getElem?_eq_some_iff.1 ho).1
    rw [hP.size] at this; exact this
  have dep : ∀ k ∈ waitsP j, l.getD k false = true := fun k hk => by
    obtain ⟨e, he, rfl, hbi⟩ := hP.waits j o ho k hk
    exact hdep e he hbi
  obtain ⟨o', ho', hd, hop, hg⟩ := hP.info j hj25
  obtain rfl : o = o' := Option.some.inj (ho.symm.trans ho')
  have e9 := (h.frame 9 (by decide)).trans h9
  have e11 := (h.frame 11 (by decide)).trans h11
  have hI' := hI.below h.bel
  have hG' := hG.below h.bel
  have hsz1 : ¬ 9223372036854775807 < Y.size + 1 := by omega
  have hxa := itoa_size ha.1 ha.2
  have hxb := itoa_size hb.1 hb.2
  have hsz6 : ¬ 9223372036854775807 < 1 + (ofT (Lib.itoa i.a)).size := by omega
  have hsz11 : ¬ 9223372036854775807 < 1 + (ofT (Lib.itoa i.b)).size := by omega
  have hsz23 : ¬ 9223372036854775807 < Y.size + 1 + (wordOf i c).size := by omega
  have e24 : j = 0 → l.getD 24 false = false := fun e => by
    subst e
    cases x : l.getD 24 false with
    | false => rfl
    | true => have := h.late x; rw [unlisted_false hu] at this; cases this
  clear hj ho' hdep
  have hcase : j = 0 ∨ j = 1 ∨ j = 2 ∨ j = 3 ∨ j = 4 ∨ j = 5 ∨ j = 6 ∨ j = 7 ∨ j = 8 ∨ j = 9 ∨ j = 10 ∨ j = 11 ∨ j = 12 ∨ j = 13 ∨ j = 14 ∨ j = 15 ∨ j = 16 ∨ j = 17 ∨ j = 18 ∨ j = 19 ∨ j = 20 ∨ j = 21 ∨ j = 22 ∨ j = 23 ∨ j = 24 := by omega
  rcases hcase with rfl | rfl | rfl | rfl | rfl | rfl | rfl | rfl | rfl | rfl | rfl | rfl | rfl | rfl | rfl | rfl | rfl | rfl | rfl | rfl | rfl | rfl | rfl | rfl | rfl
  · have e3 := h.early (e24 rfl)
    refine wpOp_value ho hg (v := valP Y I i c m 0) (w' := w) ?_ ⟨m, n, ?_⟩
    · simp [execOp, hop, infoP, e3, valP, go_sem]
    · rw [hd]; exact h.pure (d := 60) (by decide) rfl (Below.refl _ _) (by decide) hu (by omega) (fun e => by cases e)
  · have e0 := h.vals 0 60 (by decide) rfl (dep 0 (by decide))
    refine wpOp_value ho hg (v := valP Y I i c m 1) (w' := w) ?_ ⟨m, n, ?_⟩
    · simp [execOp, hop, infoP, e0, valP, go_sem, hsz1]
    · rw [hd]; exact h.pure (d := 61) (by decide) rfl (Below.refl _ _) (by decide) hu (by omega) (fun e => by cases e)
  · refine wpOp_value ho hg (v := .map (some w.heap.size)) (w' := w.alloc (.map #[] 0)) ?_ ⟨w.heap.size, 0, ?_⟩
    · simp [execOp, hop, infoP, go_sem]
      rfl
    · rw [hd]; exact h.make hu (by omega)
  · refine wpOp_value ho hg (v := valP Y I i c m 3) (w' := w) ?_ ⟨m, n, ?_⟩
    · simp [execOp, hop, infoP, e9, valP, go_sem]
    · rw [hd]; exact h.pure (d := 63) (by decide) rfl (Below.refl _ _) (by decide) hu (by omega) (fun e => by cases e)
  · have e3 := h.vals 3 63 (by decide) rfl (dep 3 (by decide))
    have cc := hI'.c1
    refine wpOp_value ho hg (v := valP Y I i c m 4) (w' := w) ?_ ⟨m, n, ?_⟩
    · simp [execOp, hop, infoP, e3, valP, go_sem, cc]
    · rw [hd]; exact h.pure (d := 64) (by decide) rfl (Below.refl _ _) (by decide) hu (by omega) (fun e => by cases e)
  · have e4 := h.vals 4 64 (by decide) rfl (dep 4 (by decide))
    refine wpOp_call ho hg (f := 80) (args := #[.int .i64 i.a]) ?_ ?_
    · simp [execOp, hop, infoP, e4, valP, go_sem]
    · refine (itoa_calls i.a w hG'.num ha.1 ha.2).mono ?_
      rintro e w' ⟨rfl, hb⟩
      refine ⟨_, rfl, m, n, ?_⟩
      rw [hd]
      exact h.pure (j := 5) (d := 65) (by decide) rfl hb (by decide) hu (by omega) (fun e => by cases e)
  · have e5 := h.vals 5 65 (by decide) rfl (dep 5 (by decide))
    refine wpOp_value ho hg (v := valP Y I i c m 6) (w' := w) ?_ ⟨m, n, ?_⟩
    · simp [execOp, hop, infoP, e5, valP, go_sem, hsz6]
    · rw [hd]; exact h.pure (d := 66) (by decide) rfl (Below.refl _ _) (by decide) hu (by omega) (fun e => by cases e)
  · have e2 := h.vals 2 62 (by decide) rfl (dep 2 (by decide))
    have e6 := h.vals 6 66 (by decide) rfl (dep 6 (by decide))
    have h2 := dep 2 (by decide)
    obtain ⟨w', hr, hm, hgr⟩ := (h.map h2).put Tryz.underlying127 (by have := h.cnt; unfold maxLen; omega) (k := 114) (by decide) (by decide) (valP Y I i c m 6)
    refine wpOp_skip ho hg (w' := w') ?_ ⟨m, n + 1, ?_⟩
    · simp only [execOp, hop, infoP]
      rw [show a.eval (.tmp 62) = .map (some m) from getD_of e2, show a.eval (.tmp 66) = valP Y I i c m 6 from getD_of e6]
      simp [Act.eval, Result.andThen, hr]
    · rw [hd]
      refine h.lay (by decide) hu h2 ?_ hgr
      have hmp : mapP i (l.setIfInBounds 7 true) = fun k => if k = 114 then some (valP Y I i c m 6) else mapP i l k := by
        funext k
        unfold mapP
        simp only [getD_set h.size (show 7 < 25 by decide)]
        by_cases hk : k = 114
        · subst hk; rfl
        · simp [hk]
      rw [hmp]; exact hm
  · refine wpOp_value ho hg (v := valP Y I i c m 8) (w' := w) ?_ ⟨m, n, ?_⟩
    · simp [execOp, hop, infoP, e9, valP, go_sem]
    · rw [hd]; exact h.pure (d := 67) (by decide) rfl (Below.refl _ _) (by decide) hu (by omega) (fun e => by cases e)
  · have e8 := h.vals 8 67 (by decide) rfl (dep 8 (by decide))
    have cc := hI'.c2
    refine wpOp_value ho hg (v := valP Y I i c m 9) (w' := w) ?_ ⟨m, n, ?_⟩
    · simp [execOp, hop, infoP, e8, valP, go_sem, cc]
    · rw [hd]; exact h.pure (d := 68) (by decide) rfl (Below.refl _ _) (by decide) hu (by omega) (fun e => by cases e)
  · have e9 := h.vals 9 68 (by decide) rfl (dep 9 (by decide))
    refine wpOp_call ho hg (f := 80) (args := #[.int .i64 i.b]) ?_ ?_
    · simp [execOp, hop, infoP, e9, valP, go_sem]
    · refine (itoa_calls i.b w hG'.num hb.1 hb.2).mono ?_
      rintro e w' ⟨rfl, hb⟩
      refine ⟨_, rfl, m, n, ?_⟩
      rw [hd]
      exact h.pure (j := 10) (d := 69) (by decide) rfl hb (by decide) hu (by omega) (fun e => by cases e)
  · have e10 := h.vals 10 69 (by decide) rfl (dep 10 (by decide))
    refine wpOp_value ho hg (v := valP Y I i c m 11) (w' := w) ?_ ⟨m, n, ?_⟩
    · simp [execOp, hop, infoP, e10, valP, go_sem, hsz11]
    · rw [hd]; exact h.pure (d := 70) (by decide) rfl (Below.refl _ _) (by decide) hu (by omega) (fun e => by cases e)
  · have e2 := h.vals 2 62 (by decide) rfl (dep 2 (by decide))
    have e11 := h.vals 11 70 (by decide) rfl (dep 11 (by decide))
    have h2 := dep 2 (by decide)
    obtain ⟨w', hr, hm, hgr⟩ := (h.map h2).put Tryz.underlying127 (by have := h.cnt; unfold maxLen; omega) (k := 115) (by decide) (by decide) (valP Y I i c m 11)
    refine wpOp_skip ho hg (w' := w') ?_ ⟨m, n + 1, ?_⟩
    · simp only [execOp, hop, infoP]
      rw [show a.eval (.tmp 62) = .map (some m) from getD_of e2, show a.eval (.tmp 70) = valP Y I i c m 11 from getD_of e11]
      simp [Act.eval, Result.andThen, hr]
    · rw [hd]
      refine h.lay (by decide) hu h2 ?_ hgr
      have hmp : mapP i (l.setIfInBounds 12 true) = fun k => if k = 115 then some (valP Y I i c m 11) else mapP i l k := by
        funext k
        unfold mapP
        simp only [getD_set h.size (show 12 < 25 by decide)]
        by_cases hk : k = 115
        · subst hk; rfl
        · simp [hk]
      rw [hmp]; exact hm
  · refine wpOp_value ho hg (v := valP Y I i c m 13) (w' := w) ?_ ⟨m, n, ?_⟩
    · simp [execOp, hop, infoP, e9, valP, go_sem]
    · rw [hd]; exact h.pure (d := 71) (by decide) rfl (Below.refl _ _) (by decide) hu (by omega) (fun e => by cases e)
  · have e13 := h.vals 13 71 (by decide) rfl (dep 13 (by decide))
    have cc := hI'.c3
    refine wpOp_value ho hg (v := valP Y I i c m 14) (w' := w) ?_ ⟨m, n, ?_⟩
    · simp [execOp, hop, infoP, e13, valP, go_sem, cc]
    · rw [hd]; exact h.pure (d := 72) (by decide) rfl (Below.refl _ _) (by decide) hu (by omega) (fun e => by cases e)
  · have e14 := h.vals 14 72 (by decide) rfl (dep 14 (by decide))
    refine wpOp_call ho hg (f := 80) (args := #[.int .i64 i.n]) ?_ ?_
    · simp [execOp, hop, infoP, e14, valP, go_sem]
    · refine (itoa_calls i.n w hG'.num hn.1 hn.2).mono ?_
      rintro e w' ⟨rfl, hb⟩
      refine ⟨_, rfl, m, n, ?_⟩
      rw [hd]
      exact h.pure (j := 15) (d := 73) (by decide) rfl hb (by decide) hu (by omega) (fun e => by cases e)
  · have e2 := h.vals 2 62 (by decide) rfl (dep 2 (by decide))
    have e15 := h.vals 15 73 (by decide) rfl (dep 15 (by decide))
    have h2 := dep 2 (by decide)
    obtain ⟨w', hr, hm, hgr⟩ := (h.map h2).put Tryz.underlying127 (by have := h.cnt; unfold maxLen; omega) (k := 110) (by decide) (by decide) (valP Y I i c m 15)
    refine wpOp_skip ho hg (w' := w') ?_ ⟨m, n + 1, ?_⟩
    · simp only [execOp, hop, infoP]
      rw [show a.eval (.tmp 62) = .map (some m) from getD_of e2, show a.eval (.tmp 73) = valP Y I i c m 15 from getD_of e15]
      simp [Act.eval, Result.andThen, hr]
    · rw [hd]
      refine h.lay (by decide) hu h2 ?_ hgr
      have hmp : mapP i (l.setIfInBounds 16 true) = fun k => if k = 110 then some (valP Y I i c m 15) else mapP i l k := by
        funext k
        unfold mapP
        simp only [getD_set h.size (show 16 < 25 by decide)]
        by_cases hk : k = 110
        · subst hk; rfl
        · simp [hk]
      rw [hmp]; exact hm
  · refine wpOp_value ho hg (v := valP Y I i c m 17) (w' := w) ?_ ⟨m, n, ?_⟩
    · simp [execOp, hop, infoP, e9, valP, go_sem]
    · rw [hd]; exact h.pure (d := 74) (by decide) rfl (Below.refl _ _) (by decide) hu (by omega) (fun e => by cases e)
  · have e17 := h.vals 17 74 (by decide) rfl (dep 17 (by decide))
    have cc := hI'.c4
    refine wpOp_value ho hg (v := valP Y I i c m 18) (w' := w) ?_ ⟨m, n, ?_⟩
    · simp [execOp, hop, infoP, e17, valP, go_sem, cc]
    · rw [hd]; exact h.pure (d := 75) (by decide) rfl (Below.refl _ _) (by decide) hu (by omega) (fun e => by cases e)
  · have e2 := h.vals 2 62 (by decide) rfl (dep 2 (by decide))
    have e18 := h.vals 18 75 (by decide) rfl (dep 18 (by decide))
    have h2 := dep 2 (by decide)
    obtain ⟨w', hr, hm, hgr⟩ := (h.map h2).put Tryz.underlying127 (by have := h.cnt; unfold maxLen; omega) (k := 107) (by decide) (by decide) (valP Y I i c m 18)
    refine wpOp_skip ho hg (w' := w') ?_ ⟨m, n + 1, ?_⟩
    · simp only [execOp, hop, infoP]
      rw [show a.eval (.tmp 62) = .map (some m) from getD_of e2, show a.eval (.tmp 75) = valP Y I i c m 18 from getD_of e18]
      simp [Act.eval, Result.andThen, hr]
    · rw [hd]
      refine h.lay (by decide) hu h2 ?_ hgr
      have hmp : mapP i (l.setIfInBounds 19 true) = fun k => if k = 107 then some (valP Y I i c m 18) else mapP i l k := by
        funext k
        unfold mapP
        simp only [getD_set h.size (show 19 < 25 by decide)]
        by_cases hk : k = 107
        · subst hk; rfl
        · simp [hk]
      rw [hmp]; exact hm
  · have e2 := h.vals 2 62 (by decide) rfl (dep 2 (by decide))
    refine wpOp_value ho hg (v := valP Y I i c m 20) (w' := w) ?_ ⟨m, n, ?_⟩
    · simp [execOp, hop, infoP, e2, valP, go_sem]
    · rw [hd]; exact h.pure (d := 76) (by decide) rfl (Below.refl _ _) (by decide) hu (by omega) (fun _ => ⟨dep 2 (by decide), dep 7 (by decide), dep 12 (by decide), dep 16 (by decide), dep 19 (by decide)⟩)
  · refine wpOp_value ho hg (v := valP Y I i c m 21) (w' := w) ?_ ⟨m, n, ?_⟩
    · simp [execOp, hop, infoP, e11, valP, go_sem]
    · rw [hd]; exact h.pure (d := 77) (by decide) rfl (Below.refl _ _) (by decide) hu (by omega) (fun e => by cases e)
  · have e20 := h.vals 20 76 (by decide) rfl (dep 20 (by decide))
    have e21 := h.vals 21 77 (by decide) rfl (dep 21 (by decide))
    obtain ⟨f2, f7, f12, f16, f19⟩ := h.full (dep 20 (by decide))
    have hmp : mapP i l c.toNat = some (.string (wordOf i c)) := by
      unfold mapP
      rw [f7, f12, f16, f19]
      rcases hc with rfl | rfl | rfl | rfl
      · show some (Value.string (⟨#[114]⟩ ++ ofT (Lib.itoa i.a))) = _
        rw [reg_ofT]; rfl
      · show some (Value.string (⟨#[114]⟩ ++ ofT (Lib.itoa i.b))) = _
        rw [reg_ofT]; rfl
      · rfl
      · show some (Value.string i.key) = some (.string (ofT (keyT i.key)))
        rw [ofT_keyT]
    have hlk := (h.map f2).get Tryz.underlying127 (z := .string ⟨#[]⟩) (by kernel_rfl) (k := c.toNat) (by omega) (by have := c.toNat_lt; omega)
    rw [hmp] at hlk
    refine wpOp_value ho hg (v := valP Y I i c m 22) (w' := w) ?_ ⟨m, n, ?_⟩
    · simp only [execOp, hop, infoP]
      rw [show a.eval (.tmp 76) = .map (some m) from getD_of e20, show a.eval (.tmp 77) = .int .i32 c.toNat from getD_of e21]
      simp [Result.andThen, hlk, valP]
    · rw [hd]; exact h.pure (d := 78) (by decide) rfl (Below.refl _ _) (by decide) hu (by omega) (fun e => by cases e)
  · have e1 := h.vals 1 61 (by decide) rfl (dep 1 (by decide))
    have e22 := h.vals 22 78 (by decide) rfl (dep 22 (by decide))
    refine wpOp_value ho hg (v := valP Y I i c m 23) (w' := w) ?_ ⟨m, n, ?_⟩
    · simp [execOp, hop, infoP, e1, e22, valP, go_sem, hsz23]
    · rw [hd]; exact h.pure (d := 79) (by decide) rfl (Below.refl _ _) (by decide) hu (by omega) (fun e => by cases e)
  · have e23 := h.vals 23 79 (by decide) rfl (dep 23 (by decide))
    refine wpOp_value ho hg (v := valP Y I i c m 24) (w' := w) ?_ ⟨m, n, ?_⟩
    · simp [execOp, hop, infoP, e23, valP, go_sem]
    · rw [hd]; exact h.tell hu (dep 0 (by decide)) (by omega)

theorem word_region {ops : Array Oper} (hP : IsP ops) {Q : Exit → Act → World → Prop} {a0 : Act} {w0 : World} {Y : ByteArray} {I : Nat} {i : Ins} {c : UInt8} (id : Nat) (hI : InsAt w0 I i) (hG : Ground w0) (ha : -9223372036854775808 ≤ i.a ∧ i.a ≤ 9223372036854775807) (hb : -9223372036854775808 ≤ i.b ∧ i.b ≤ 9223372036854775807) (hn : -9223372036854775808 ≤ i.n ∧ i.n ≤ 9223372036854775807)
    (h3 : a0.tmps[3]? = some (.string Y)) (h9 : a0.tmps[9]? = some (.pointer (some ⟨I, 0, none⟩))) (h11 : a0.tmps[11]? = some (.int .i32 c.toNat)) (hsz : 80 ≤ a0.tmps.size) (hY : Y.size ≤ 5000) (hV : (wordOf i c).size ≤ 5000) (hc : c = 114 ∨ c = 115 ∨ c = 110 ∨ c = 107)
    (fin : ∀ m w', Below w0.heap.size w0 w' → Q .normal (putAll a0 (lastP Y I i c m)) w') : (Code.region id ops true).wp Tryz.prog Q a0 w0 := by
  refine wp_region_any (by kernel_rfl) ?_
  refine wpAny_inv (fun l a w => ∃ m n, PI a0 w0 Y I i c l a w m n) (fun l a w j h hj => word_step hP hI hG ha hb hn h9 h11 hsz hY hV hc l a w j h hj) (fun l a w h hr => ?_) _ _ _ _ ?_ ?_
  · obtain ⟨m, n, h⟩ := h
    rw [h.last (all_listed hP h.size hr) hsz]
    exact fin m w h.bel
  · unfold left; simp
  · have gd : ∀ k, (Array.replicate ops.size false).getD k false = false := fun k => by
      by_cases hk : k < ops.size
      · simp [hk]
      · simp [hk]
    refine ⟨w0.heap.size, 0, by simp [hP.size], rfl, rfl, fun _ _ => rfl, (Below.refl _ _).drew, Nat.le_refl _, by unfold left; simp [hP.size], fun k e _ _ hl => ?_, fun h2 => ?_, fun _ => h3, fun h24 => ?_, fun _ => ⟨gd _, gd _, gd _, gd _, gd _⟩, fun hf => ?_⟩
    · rw [gd] at hl; cases hl
    · rw [gd] at h2; cases h2
    · rw [gd] at h24; cases h24
    · rw [gd] at hf; cases hf
end Go.Proofs.YthmkgfdglkdjmadGreatDoor
