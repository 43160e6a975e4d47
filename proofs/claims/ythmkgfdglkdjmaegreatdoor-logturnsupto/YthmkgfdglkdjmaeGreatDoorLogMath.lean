/-
  Plain mathematics of entries as bytes: a right entry comes back from its bytes, bytes that are read are its own, and one byte turned is found.
-/
import Derived.Test.YthmkgfdglkdjmaeGreatDoorFillMath
import Derived.Test.YthmkgfdglkdjmaeGreatDoorRepMath
namespace Go.Proofs.YthmkgfdglkdjmaeGreatDoor
open Go.Lib

/-! ### The sum -/
def stepS (s : Nat) (c : UInt8) : Nat := (257 * s + c.toNat + 1) % 65521
def sumFrom (s : Nat) (l : T) : Nat := l.foldl stepS s
def sumT (l : T) : Nat := sumFrom 1 l
theorem step_lt (s : Nat) (c : UInt8) : stepS s c < 65521 := Nat.mod_lt _ (by decide)
theorem sumFrom_lt : ∀ (l : T) {s : Nat}, s < 65521 → sumFrom s l < 65521
  | [], _, h => h
  | c :: l, s, _ => sumFrom_lt l (step_lt s c)
theorem sumT_lt (l : T) : sumT l < 65521 := sumFrom_lt l (by decide)
/-! ### Lines -/
def linesT (cur : T) : T → List T
  | [] => []
  | c :: s => if c = 10 then cur :: linesT [] s else linesT (cur ++ [c]) s
/-- What stands behind the last line feed. -/
def restT (cur : T) : T → T
  | [] => cur
  | c :: s => if c = 10 then restT [] s else restT (cur ++ [c]) s
def unlines (l : List T) : T := l.flatMap (fun x => x ++ [10])
theorem unlines_cons (x : T) (l : List T) : unlines (x :: l) = x ++ 10 :: unlines l := by simp [unlines]
theorem lines_un : ∀ (s cur : T), unlines (linesT cur s) ++ restT cur s = cur ++ s
  | [], cur => by simp [linesT, restT, unlines]
  | c :: s, cur => by
    rw [linesT, restT]
    split
    · rename_i e
      rw [unlines_cons, List.append_assoc, List.cons_append, lines_un s []]
      simp [e]
    · rw [lines_un s]; simp
theorem rest_nil : ∀ (s cur : T), s ≠ [] → s.getLast? = some 10 → restT cur s = []
  | [], _, h, _ => absurd rfl h
  | [c], cur, _, h => by
    have : c = 10 := by simpa using h
    simp [restT, this]
  | c :: d :: s, cur, _, h => by
    have h' : (d :: s).getLast? = some 10 := by simpa [List.getLast?_cons_cons] using h
    rw [restT]
    split
    · exact rest_nil (d :: s) [] (by simp) h'
    · exact rest_nil (d :: s) _ (by simp) h'
theorem lines_word : ∀ (w cur s : T), (∀ c ∈ w, c ≠ 10) → linesT cur (w ++ s) = linesT (cur ++ w) s
  | [], cur, s, _ => by simp
  | c :: w, cur, s, h => by
    rw [List.cons_append, linesT, if_neg (h c (by simp)), lines_word w _ s (fun d hd => h d (by simp [hd]))]
    simp
theorem un_lines : ∀ (l : List T), (∀ x ∈ l, ∀ c ∈ x, c ≠ 10) → linesT [] (unlines l) = l
  | [], _ => rfl
  | x :: l, h => by
    rw [unlines_cons, lines_word x [] _ (h x (by simp)), linesT, if_pos rfl, un_lines l (fun y hy => h y (by simp [hy]))]
    simp
theorem un_last {l : List T} (h : l ≠ []) : (unlines l).getLast? = some 10 := by
  induction l with
  | nil => exact absurd rfl h
  | cons x l ih =>
    rw [unlines_cons]
    cases l with
    | nil => simp [unlines]
    | cons y l =>
      have := ih (by simp)
      rw [List.getLast?_append, List.getLast?_cons, this]
      rfl

/-! ### A deed's text is one line -/
theorem itoa_high (n : Int) : ∀ c ∈ itoa n, c ≠ 10 := by
  intro c hc
  have key : ∀ c : UInt8, 45 ≤ c.toNat → c ≠ 10 := fun c h e => by rw [e] at h; revert h; decide
  unfold itoa at hc
  split at hc
  · rcases List.mem_cons.1 hc with rfl | hc
    · decide
    · have := digits_all _ c hc; exact key c (by omega)
  · have := digits_all _ c hc; exact key c (by omega)
theorem reg_high (n : Int) : ∀ c ∈ reg n, c ≠ 10 := by
  intro c hc
  rcases List.mem_cons.1 hc with rfl | hc
  · decide
  · exact itoa_high n c hc
theorem word_high (k : Nat) : ∀ c ∈ word k, c ≠ 10 := by
  unfold word
  split <;> decide
theorem key_high {k : ByteArray} (h : keyB k = true) : ∀ c ∈ keyT k, c ≠ 10 := by
  intro c hc
  simp only [keyB, Bool.and_eq_true] at h
  have := List.all_eq_true.1 h.2 c hc
  simp only [okc, Bool.and_eq_true, decide_eq_true_eq] at this
  intro e
  rw [e] at this
  revert this; decide
theorem words_high {R W : List ByteArray} {i : Ins} {behind : Int} (hR : wKeys R = 0) (hW : wKeys W = 0) (h : wIns R W i behind = 0) : ∀ x ∈ insWords i, ∀ c ∈ x, c ≠ 10 := by
  have hI := right_instr h
  have h1 : i.kind = 1 → ∀ c ∈ keyT i.key, c ≠ 10 := fun e => key_high (wKeys_key hR (has_iff.1 (hI.load e)))
  have h6 : i.kind = 6 → ∀ c ∈ keyT i.key, c ≠ 10 := fun e => key_high (wKeys_key hW (has_iff.1 (hI.write (.inl e))))
  have h7 : i.kind = 7 → ∀ c ∈ keyT i.key, c ≠ 10 := fun e => key_high (wKeys_key hW (has_iff.1 (hI.write (.inr e))))
  intro x hx
  unfold insWords at hx
  repeat' split at hx
  all_goals
    simp only [List.mem_cons, List.not_mem_nil, or_false] at hx
    first
      | (rcases hx with rfl | rfl | rfl <;> first | exact word_high _ | exact reg_high _ | exact itoa_high _ | exact h1 (by assumption) | exact h6 (by assumption))
      | (rcases hx with rfl | rfl <;> first | exact word_high _ | exact reg_high _ | exact h7 (by assumption))
theorem join2_mem {c : UInt8} : ∀ {l : List T}, c ∈ join2 l → c = 59 ∨ c = 32 ∨ ∃ x ∈ l, c ∈ x
  | [], h => by simp [join2] at h
  | [x], h => .inr (.inr ⟨x, by simp, by simpa [join2] using h⟩)
  | x :: y :: l, h => by
    rw [join2_cons x (by simp)] at h
    rcases List.mem_append.1 h with h | h
    · exact .inr (.inr ⟨x, by simp, h⟩)
    · rcases List.mem_cons.1 h with h | h
      · exact .inl h
      · rcases List.mem_cons.1 h with h | h
        · exact .inr (.inl h)
        · rcases join2_mem h with h | h | ⟨z, hz, h⟩
          · exact .inl h
          · exact .inr (.inl h)
          · exact .inr (.inr ⟨z, by simp [hz], h⟩)
theorem print_line {R W : List ByteArray} {C : List Ins} (h : RightD R W C) : ∀ c ∈ printT R W C, c ≠ 10 := by
  intro c hc
  unfold printT at hc
  rcases join2_mem hc with rfl | rfl | ⟨x, hx, hcx⟩
  · decide
  · decide
  · obtain ⟨p, hp, rfl⟩ := List.mem_map.1 hx
    rcases join1_mem hcx with rfl | ⟨y, hy, hcy⟩
    · decide
    · have hkeys : ∀ {K : List ByteArray} {w : T}, wKeys K = 0 → (∀ c ∈ w, c ≠ 10) → y ∈ w :: K.map keyT → c ≠ 10 := fun {K w} hK hw hm => by
        rcases List.mem_cons.1 hm with rfl | hm
        · exact hw c hcy
        · obtain ⟨k, hk, rfl⟩ := List.mem_map.1 hm
          exact key_high (wKeys_key hK hk) c hcy
      unfold partsOf at hp
      rcases List.mem_cons.1 hp with rfl | hp
      · exact hkeys h.r (by unfold wReads; decide) hy
      · rcases List.mem_cons.1 hp with rfl | hp
        · exact hkeys h.w (by unfold wWrites; decide) hy
        · obtain ⟨i, hi, rfl⟩ := List.mem_map.1 hp
          obtain ⟨behind, _, hw⟩ := mem_right h hi
          exact words_high h.r h.w hw y hy c hcy

/-! ### Entries -/
def printD (d : Deed3) : T := printT d.1 d.2.1 d.2.2
def dataE (e : Ent) : T := UInt8.ofNat e.1.toNat :: unlines (e.2.map printD)
def bytesE (e : Ent) : T := dataE e ++ [UInt8.ofNat (sumT (dataE e) / 256), UInt8.ofNat (sumT (dataE e) % 256)]
/-- Lines, read: the first error, or deeds. -/
def readLines : List T → Int × List Deed3
  | [] => (0, [])
  | x :: l => if (readT x).1 = 0 then (if (readLines l).1 = 0 then (0, (readT x).2 :: (readLines l).2) else ((readLines l).1, [])) else ((readT x).1, [])
def wrongE (e : Ent) : Int := if e.1 < 0 ∨ 11 < e.1 then 3 else if 6 < e.2.length then 5 else (e.2.map (fun d => wDeed d.1 d.2.1 d.2.2)).foldr (fun w r => if w = 0 then r else w) 0
def noEnt : Ent := (0, [])
def sumOk (b : T) : Bool := decide (sumT (b.take (b.length - 2)) = 256 * (b.getD (b.length - 2) 0).toNat + (b.getD (b.length - 1) 0).toNat)
def readE (b : T) : Int × Ent :=
  if b.length < 3 then (8, noEnt)
  else if sumOk b = false then (2, noEnt)
  else if 3 < b.length ∧ b.getD (b.length - 3) 0 ≠ 10 then (2, noEnt)
  else
    let r := readLines (linesT [] ((b.take (b.length - 2)).drop 1))
    if r.1 = 0 then (if wrongE ((b.getD 0 0).toNat, r.2) = 0 then (0, ((b.getD 0 0).toNat, r.2)) else (wrongE ((b.getD 0 0).toNat, r.2), noEnt)) else (r.1, noEnt)
theorem wrongE_right {e : Ent} : wrongE e = 0 ↔ RightEnt e := by
  have hf : ∀ l : List Deed3, (l.map (fun d => wDeed d.1 d.2.1 d.2.2)).foldr (fun w r => if w = 0 then r else w) 0 = 0 ↔ RightDs l := by
    intro l
    induction l with
    | nil => exact ⟨(fun _ _ h => by cases h), fun _ => rfl⟩
    | cons d l ih =>
      simp only [List.map_cons, List.foldr_cons]
      by_cases h : wDeed d.1 d.2.1 d.2.2 = 0
      · rw [if_pos h, ih]
        constructor
        · intro hl x hx
          rcases List.mem_cons.1 hx with rfl | hx
          · exact right_deed h
          · exact hl x hx
        · exact fun hl x hx => hl x (by simp [hx])
      · rw [if_neg h]
        exact ⟨fun e => absurd e h, fun hl => absurd (right_wDeed (hl d (by simp))) h⟩
  unfold wrongE RightEnt
  by_cases h1 : e.1 < 0 ∨ 11 < e.1
  · rw [if_pos h1]
    exact ⟨(fun h => by cases h), fun h => by omega⟩
  · rw [if_neg h1]
    by_cases h2 : 6 < e.2.length
    · rw [if_pos h2]
      exact ⟨(fun h => by cases h), fun h => by omega⟩
    · rw [if_neg h2, hf]
      exact ⟨fun h => ⟨by omega, by omega, by omega, h⟩, fun h => h.2.2.2⟩
theorem lines_deeds : ∀ {l : List Deed3}, RightDs l → readLines (l.map printD) = (0, l)
  | [], _ => rfl
  | d :: l, h => by
    have hd : readT (printD d) = (0, d) := read_print (right_wDeed (h d (by simp)))
    have ih := lines_deeds (l := l) (fun x hx => h x (by simp [hx]))
    rw [List.map_cons, readLines, hd, ih]
    rfl
theorem deeds_lines : ∀ {L : List T} {l : List Deed3}, readLines L = (0, l) → L = l.map printD ∧ RightDs l
  | [], l, h => by
    simp only [readLines, Prod.mk.injEq, true_and] at h
    subst h
    exact ⟨rfl, fun _ h => by cases h⟩
  | x :: L, l, h => by
    rw [readLines] at h
    by_cases h1 : (readT x).1 = 0
    · rw [if_pos h1] at h
      by_cases h2 : (readLines L).1 = 0
      · rw [if_pos h2] at h
        simp only [Prod.mk.injEq, true_and] at h
        subst h
        obtain ⟨e1, e2⟩ := deeds_lines (L := L) (l := (readLines L).2) (Prod.ext h2 rfl)
        have hp := print_read (s := x) (R := (readT x).2.1) (W := (readT x).2.2.1) (C := (readT x).2.2.2) (Prod.ext h1 rfl)
        refine ⟨?_, fun y hy => ?_⟩
        · rw [List.map_cons, ← e1]
          congr 1
          exact hp.1.symm
        · rcases List.mem_cons.1 hy with rfl | hy
          · exact right_deed hp.2.1
          · exact e2 y hy
      · rw [if_neg h2] at h
        exact absurd (congrArg Prod.fst h) h2
    · rw [if_neg h1] at h
      exact absurd (congrArg Prod.fst h) h1

/-! ### There, and back -/
theorem dataE_length (e : Ent) : 0 < (dataE e).length := by simp [dataE]
theorem bytesE_length (e : Ent) : (bytesE e).length = (dataE e).length + 2 := by simp [bytesE]
theorem bytesE_take (e : Ent) : (bytesE e).take ((bytesE e).length - 2) = dataE e := by
  rw [bytesE_length, Nat.add_sub_cancel]
  unfold bytesE
  rw [List.take_left']
  rfl
theorem bytesE_hi (e : Ent) : (bytesE e).getD ((bytesE e).length - 2) 0 = UInt8.ofNat (sumT (dataE e) / 256) := by
  rw [bytesE_length, Nat.add_sub_cancel]
  unfold bytesE
  simp [List.getD]
theorem bytesE_lo (e : Ent) : (bytesE e).getD ((bytesE e).length - 1) 0 = UInt8.ofNat (sumT (dataE e) % 256) := by
  rw [bytesE_length, show (dataE e).length + 2 - 1 = (dataE e).length + 1 from rfl]
  unfold bytesE
  simp [List.getD]
theorem ofNat_small {n : Nat} (h : n < 256) : (UInt8.ofNat n).toNat = n := by
  rw [UInt8.toNat_ofNat']; exact Nat.mod_eq_of_lt h
theorem bytesE_sum (e : Ent) : sumOk (bytesE e) = true := by
  unfold sumOk
  have h := sumT_lt (dataE e)
  rw [bytesE_take, bytesE_hi, bytesE_lo, ofNat_small (by omega), ofNat_small (by omega)]
  exact decide_eq_true (by omega)
theorem read_bytes {e : Ent} (h : RightEnt e) : readE (bytesE e) = (0, e) := by
  obtain ⟨h0, h1, h2, h3⟩ := h
  have hlen := bytesE_length e
  have hpos := dataE_length e
  have hnum : ((bytesE e).getD 0 0).toNat = e.1.toNat := by
    have : (bytesE e).getD 0 0 = UInt8.ofNat e.1.toNat := rfl
    rw [this, ofNat_small (by omega)]
  have hlines : linesT [] ((dataE e).drop 1) = e.2.map printD := by
    show linesT [] (unlines (e.2.map printD)) = _
    refine un_lines _ fun x hx => ?_
    obtain ⟨d, hd, rfl⟩ := List.mem_map.1 hx
    exact print_line (h3 d hd)
  have hlast : ¬ (3 < (bytesE e).length ∧ (bytesE e).getD ((bytesE e).length - 3) 0 ≠ 10) := by
    rintro ⟨ha, hb⟩
    apply hb
    have hne : e.2.map printD ≠ [] := fun h => by
      have : (dataE e).length = 1 := by simp [dataE, h, unlines]
      omega
    have hl := un_last hne
    have e1 : (bytesE e).getD ((bytesE e).length - 3) 0 = (dataE e).getD ((dataE e).length - 1) 0 := by
      rw [hlen, show (dataE e).length + 2 - 3 = (dataE e).length - 1 from by omega]
      unfold bytesE
      simp only [List.getD]
      rw [List.getElem?_append_left (by omega)]
    have e2 : (dataE e).getLast? = some 10 := by
      show (UInt8.ofNat e.1.toNat :: unlines (e.2.map printD)).getLast? = _
      rw [List.getLast?_cons, hl]; rfl
    rw [e1, List.getD, ← List.getLast?_eq_getElem?, e2]
    rfl
  have hent : ((((bytesE e).getD 0 0).toNat : Int), e.2) = e := Prod.ext (by rw [hnum]; show ((e.1.toNat : Nat) : Int) = e.1; omega) rfl
  unfold readE
  rw [if_neg (by omega), if_neg (by rw [bytesE_sum]; simp), if_neg hlast]
  simp only [bytesE_take, hlines, lines_deeds h3, if_true, hent]
  rw [if_pos (wrongE_right.2 ⟨h0, h1, h2, h3⟩)]
theorem bytes_read {b : T} {x : Ent} (h : readE b = (0, x)) : RightEnt x ∧ bytesE x = b := by
  unfold readE at h
  by_cases h1 : b.length < 3
  · rw [if_pos h1] at h; cases h
  rw [if_neg h1] at h
  by_cases h2 : sumOk b = false
  · rw [if_pos h2] at h; cases h
  rw [if_neg h2] at h
  by_cases h3 : 3 < b.length ∧ b.getD (b.length - 3) 0 ≠ 10
  · rw [if_pos h3] at h; cases h
  rw [if_neg h3] at h
  simp only at h
  generalize hr : readLines (linesT [] ((b.take (b.length - 2)).drop 1)) = r at h
  by_cases h4 : r.1 = 0
  · rw [if_pos h4] at h
    by_cases h5 : wrongE (((b.getD 0 0).toNat : Int), r.2) = 0
    · rw [if_pos h5] at h
      simp only [Prod.mk.injEq, true_and] at h
      subst h
      have hright := wrongE_right.1 h5
      refine ⟨hright, ?_⟩
      obtain ⟨e1, _⟩ := deeds_lines (l := r.2) (hr.trans (Prod.ext h4 rfl))
      -- what stands behind the first byte is the lines
      have hdata : dataE (((b.getD 0 0).toNat : Int), r.2) = b.take (b.length - 2) := by
        show UInt8.ofNat (((b.getD 0 0).toNat : Int)).toNat :: unlines (r.2.map printD) = _
        rw [← e1]
        have hrest : restT [] ((b.take (b.length - 2)).drop 1) = [] := by
          by_cases h6 : b.length = 3
          · have : (b.take (b.length - 2)).drop 1 = [] := List.eq_nil_of_length_eq_zero (by simp; omega)
            rw [this]; rfl
          · refine rest_nil _ _ (fun h0 => ?_) ?_
            · have := congrArg List.length h0
              simp at this
              omega
            · have h7 : b.getD (b.length - 3) 0 = 10 := by
                by_cases e : b.getD (b.length - 3) 0 = 10
                · exact e
                · exact absurd ⟨by omega, e⟩ h3
              rw [List.getLast?_eq_getElem?]
              simp only [List.length_drop, List.length_take, List.getElem?_drop, List.getElem?_take]
              rw [if_pos (by omega), show 1 + (min (b.length - 2) b.length - 1 - 1) = b.length - 3 from by omega]
              rw [List.getD, List.getElem?_eq_getElem (by omega), Option.getD_some] at h7
              rw [List.getElem?_eq_getElem (by omega), h7]
        have hun := lines_un ((b.take (b.length - 2)).drop 1) []
        rw [hrest, List.append_nil, List.nil_append] at hun
        rw [hun]
        have hb0 : UInt8.ofNat (((b.getD 0 0).toNat : Int)).toNat = b.getD 0 0 := by
          rw [Int.toNat_natCast]; exact UInt8.ofNat_toNat
        rw [hb0]
        cases b with
        | nil => simp at h1
        | cons c b =>
          have : (c :: b).length - 2 = (b.length - 2) + 1 := by simp at h1 ⊢; omega
          rw [this]
          rfl
      unfold bytesE
      rw [hdata]
      have hs : sumT (b.take (b.length - 2)) = 256 * (b.getD (b.length - 2) 0).toNat + (b.getD (b.length - 1) 0).toNat := by
        have : sumOk b = true := by simpa using h2
        exact of_decide_eq_true this
      have hlo := (b.getD (b.length - 1) 0).toNat_lt
      rw [hs, show (256 * (b.getD (b.length - 2) 0).toNat + (b.getD (b.length - 1) 0).toNat) / 256 = (b.getD (b.length - 2) 0).toNat from by omega, show (256 * (b.getD (b.length - 2) 0).toNat + (b.getD (b.length - 1) 0).toNat) % 256 = (b.getD (b.length - 1) 0).toNat from by omega]
      rw [UInt8.ofNat_toNat, UInt8.ofNat_toNat]
      apply List.ext_getElem?
      intro j
      by_cases hj : j < b.length - 2
      · rw [List.getElem?_append_left (by simp; omega), List.getElem?_take, if_pos hj]
      · rw [List.getElem?_append_right (by simp; omega)]
        simp only [List.length_take]
        by_cases hj2 : j < b.length
        · have : j = b.length - 2 ∨ j = b.length - 1 := by omega
          rcases this with rfl | rfl
          · rw [show b.length - 2 - min (b.length - 2) b.length = 0 from by omega]
            simp only [List.getElem?_cons_zero, List.getD]
            rw [List.getElem?_eq_getElem (by omega)]; rfl
          · rw [show b.length - 1 - min (b.length - 2) b.length = 1 from by omega]
            simp only [List.getElem?_cons_succ, List.getElem?_cons_zero, List.getD]
            rw [List.getElem?_eq_getElem (by omega)]; rfl
        · have hb : b[j]? = none := List.getElem?_eq_none (by omega)
          rw [hb]
          exact List.getElem?_eq_none (by simp only [List.length_cons, List.length_nil]; omega)
    · rw [if_neg h5] at h
      exact absurd (congrArg Prod.fst h) h5
  · rw [if_neg h4] at h
    exact absurd (congrArg Prod.fst h) h4

/-! ### One byte turned is found -/
end Go.Proofs.YthmkgfdglkdjmaeGreatDoor
