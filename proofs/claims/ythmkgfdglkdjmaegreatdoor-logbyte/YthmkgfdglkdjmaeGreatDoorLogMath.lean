/-
  Plain mathematics of entries as bytes: a right entry comes back from its bytes, bytes that are read are its own, and one byte turned is found.
-/
import Derived.Test.YthmkgfdglkdjmaeGreatDoorFillMath
import Derived.Test.YthmkgfdglkdjmaeGreatDoorRepMath
namespace Go.Proofs.YthmkgfdglkdjmaeGreatDoor
open Go.Lib

/-! ### The sum -/
def stepS (s : Nat) (c : UInt8) : Nat := (257 * s + c.toNat + 1) % 65521
def sumFrom (s : Nat) (l : T) : Nat := l.foldl stepS s
def sumT (l : T) : Nat := sumFrom 1 l
theorem step_lt (s : Nat) (c : UInt8) : stepS s c < 65521 := Nat.mod_lt _ (by decide)
theorem sumFrom_lt : ∀ (l : T) {s : Nat}, s < 65521 → sumFrom s l < 65521
  | [], _, h => h
  | c :: l, s, _ => sumFrom_lt l (step_lt s c)
theorem sumT_lt (l : T) : sumT l < 65521 := sumFrom_lt l (by decide)
theorem step_inj {s s' : Nat} (h : s < 65521) (h' : s' < 65521) {c : UInt8} (e : stepS s c = stepS s' c) : s = s' := by
  unfold stepS at e; omega
theorem step_turn {s : Nat} {c c' : UInt8} (e : stepS s c = stepS s c') : c = c' := by
  unfold stepS at e
  have h1 := c.toNat_lt
  have h2 := c'.toNat_lt
  exact UInt8.toNat_inj.1 (by omega)
theorem sumFrom_inj : ∀ (l : T) {s s' : Nat}, s < 65521 → s' < 65521 → sumFrom s l = sumFrom s' l → s = s'
  | [], _, _, _, _, e => e
  | c :: l, s, s', h, h', e => step_inj h h' (sumFrom_inj l (step_lt s c) (step_lt s' c) e)
theorem sumFrom_turn : ∀ (l : T) {s : Nat}, s < 65521 → ∀ (i : Nat) (c : UInt8), i < l.length → l.getD i 0 ≠ c → sumFrom s (l.set i c) ≠ sumFrom s l
  | [], _, _, i, _, hi, _ => absurd hi (Nat.not_lt_zero _)
  | x :: l, s, _, 0, c, _, hn => fun e => hn (by
    have := sumFrom_inj l (step_lt s c) (step_lt s x) e
    simpa using (step_turn this).symm)
  | x :: l, s, _, i + 1, c, hi, hn => sumFrom_turn l (step_lt s x) i c (by simpa using hi) (by simpa using hn)

/-! ### Lines -/
def linesT (cur : T) : T → List T
  | [] => []
  | c :: s => if c = 10 then cur :: linesT [] s else linesT (cur ++ [c]) s
def unlines (l : List T) : T := l.flatMap (fun x => x ++ [10])
theorem unlines_cons (x : T) (l : List T) : unlines (x :: l) = x ++ 10 :: unlines l := by simp [unlines]
theorem lines_word : ∀ (w cur s : T), (∀ c ∈ w, c ≠ 10) → linesT cur (w ++ s) = linesT (cur ++ w) s
  | [], cur, s, _ => by simp
  | c :: w, cur, s, h => by
    rw [List.cons_append, linesT, if_neg (h c (by simp)), lines_word w _ s (fun d hd => h d (by simp [hd]))]
    simp
theorem un_lines : ∀ (l : List T), (∀ x ∈ l, ∀ c ∈ x, c ≠ 10) → linesT [] (unlines l) = l
  | [], _ => rfl
  | x :: l, h => by
    rw [unlines_cons, lines_word x [] _ (h x (by simp)), linesT, if_pos rfl, un_lines l (fun y hy => h y (by simp [hy]))]
    simp
theorem un_last {l : List T} (h : l ≠ []) : (unlines l).getLast? = some 10 := by
  induction l with
  | nil => exact absurd rfl h
  | cons x l ih =>
    rw [unlines_cons]
    cases l with
    | nil => simp [unlines]
    | cons y l =>
      have := ih (by simp)
      rw [List.getLast?_append, List.getLast?_cons, this]
      rfl

/-! ### A deed's text is one line -/
theorem itoa_high (n : Int) : ∀ c ∈ itoa n, c ≠ 10 := by
  intro c hc
  have key : ∀ c : UInt8, 45 ≤ c.toNat → c ≠ 10 := fun c h e => by rw [e] at h; revert h; decide
  unfold itoa at hc
  split at hc
  · rcases List.mem_cons.1 hc with rfl | hc
    · decide
    · have := digits_all _ c hc; exact key c (by omega)
  · have := digits_all _ c hc; exact key c (by omega)
theorem reg_high (n : Int) : ∀ c ∈ reg n, c ≠ 10 := by
  intro c hc
  rcases List.mem_cons.1 hc with rfl | hc
  · decide
  · exact itoa_high n c hc
theorem word_high (k : Nat) : ∀ c ∈ word k, c ≠ 10 := by
  unfold word
  split <;> decide
theorem key_high {k : ByteArray} (h : keyB k = true) : ∀ c ∈ keyT k, c ≠ 10 := by
  intro c hc
  simp only [keyB, Bool.and_eq_true] at h
  have := List.all_eq_true.1 h.2 c hc
  simp only [okc, Bool.and_eq_true, decide_eq_true_eq] at this
  intro e
  rw [e] at this
  revert this; decide
theorem words_high {R W : List ByteArray} {i : Ins} {behind : Int} (hR : wKeys R = 0) (hW : wKeys W = 0) (h : wIns R W i behind = 0) : ∀ x ∈ insWords i, ∀ c ∈ x, c ≠ 10 := by
  have hI := right_instr h
  have h1 : i.kind = 1 → ∀ c ∈ keyT i.key, c ≠ 10 := fun e => key_high (wKeys_key hR (has_iff.1 (hI.load e)))
  have h6 : i.kind = 6 → ∀ c ∈ keyT i.key, c ≠ 10 := fun e => key_high (wKeys_key hW (has_iff.1 (hI.write (.inl e))))
  have h7 : i.kind = 7 → ∀ c ∈ keyT i.key, c ≠ 10 := fun e => key_high (wKeys_key hW (has_iff.1 (hI.write (.inr e))))
  intro x hx
  unfold insWords at hx
  repeat' split at hx
  all_goals
    simp only [List.mem_cons, List.not_mem_nil, or_false] at hx
    first
      | (rcases hx with rfl | rfl | rfl <;> first | exact word_high _ | exact reg_high _ | exact itoa_high _ | exact h1 (by assumption) | exact h6 (by assumption))
      | (rcases hx with rfl | rfl <;> first | exact word_high _ | exact reg_high _ | exact h7 (by assumption))
theorem join2_mem {c : UInt8} : ∀ {l : List T}, c ∈ join2 l → c = 59 ∨ c = 32 ∨ ∃ x ∈ l, c ∈ x
  | [], h => by simp [join2] at h
  | [x], h => .inr (.inr ⟨x, by simp, by simpa [join2] using h⟩)
  | x :: y :: l, h => by
    rw [join2_cons x (by simp)] at h
    rcases List.mem_append.1 h with h | h
    · exact .inr (.inr ⟨x, by simp, h⟩)
    · rcases List.mem_cons.1 h with h | h
      · exact .inl h
      · rcases List.mem_cons.1 h with h | h
        · exact .inr (.inl h)
        · rcases join2_mem h with h | h | ⟨z, hz, h⟩
          · exact .inl h
          · exact .inr (.inl h)
          · exact .inr (.inr ⟨z, by simp [hz], h⟩)
theorem print_line {R W : List ByteArray} {C : List Ins} (h : RightD R W C) : ∀ c ∈ printT R W C, c ≠ 10 := by
  intro c hc
  unfold printT at hc
  rcases join2_mem hc with rfl | rfl | ⟨x, hx, hcx⟩
  · decide
  · decide
  · obtain ⟨p, hp, rfl⟩ := List.mem_map.1 hx
    rcases join1_mem hcx with rfl | ⟨y, hy, hcy⟩
    · decide
    · have hkeys : ∀ {K : List ByteArray} {w : T}, wKeys K = 0 → (∀ c ∈ w, c ≠ 10) → y ∈ w :: K.map keyT → c ≠ 10 := fun {K w} hK hw hm => by
        rcases List.mem_cons.1 hm with rfl | hm
        · exact hw c hcy
        · obtain ⟨k, hk, rfl⟩ := List.mem_map.1 hm
          exact key_high (wKeys_key hK hk) c hcy
      unfold partsOf at hp
      rcases List.mem_cons.1 hp with rfl | hp
      · exact hkeys h.r (by unfold wReads; decide) hy
      · rcases List.mem_cons.1 hp with rfl | hp
        · exact hkeys h.w (by unfold wWrites; decide) hy
        · obtain ⟨i, hi, rfl⟩ := List.mem_map.1 hp
          obtain ⟨behind, _, hw⟩ := mem_right h hi
          exact words_high h.r h.w hw y hy c hcy

/-! ### Entries -/
def printD (d : Deed3) : T := printT d.1 d.2.1 d.2.2
def dataE (e : Ent) : T := UInt8.ofNat e.1.toNat :: unlines (e.2.map printD)
def bytesE (e : Ent) : T := dataE e ++ [UInt8.ofNat (sumT (dataE e) / 256), UInt8.ofNat (sumT (dataE e) % 256)]
/-- Lines, read: the first error, or deeds. -/
def readLines : List T → Int × List Deed3
  | [] => (0, [])
  | x :: l => if (readT x).1 = 0 then (if (readLines l).1 = 0 then (0, (readT x).2 :: (readLines l).2) else ((readLines l).1, [])) else ((readT x).1, [])
def wrongE (e : Ent) : Int := if e.1 < 0 ∨ 11 < e.1 then 3 else if 6 < e.2.length then 5 else (e.2.map (fun d => wDeed d.1 d.2.1 d.2.2)).foldr (fun w r => if w = 0 then r else w) 0
def noEnt : Ent := (0, [])
def sumOk (b : T) : Bool := decide (sumT (b.take (b.length - 2)) = 256 * (b.getD (b.length - 2) 0).toNat + (b.getD (b.length - 1) 0).toNat)
def readE (b : T) : Int × Ent :=
  if b.length < 3 then (8, noEnt)
  else if sumOk b = false then (2, noEnt)
  else if 3 < b.length ∧ b.getD (b.length - 3) 0 ≠ 10 then (2, noEnt)
  else
    let r := readLines (linesT [] ((b.take (b.length - 2)).drop 1))
    if r.1 = 0 then (if wrongE ((b.getD 0 0).toNat, r.2) = 0 then (0, ((b.getD 0 0).toNat, r.2)) else (wrongE ((b.getD 0 0).toNat, r.2), noEnt)) else (r.1, noEnt)
theorem wrongE_right {e : Ent} : wrongE e = 0 ↔ RightEnt e := by
  have hf : ∀ l : List Deed3, (l.map (fun d => wDeed d.1 d.2.1 d.2.2)).foldr (fun w r => if w = 0 then r else w) 0 = 0 ↔ RightDs l := by
    intro l
    induction l with
    | nil => exact ⟨(fun _ _ h => by cases h), fun _ => rfl⟩
    | cons d l ih =>
      simp only [List.map_cons, List.foldr_cons]
      by_cases h : wDeed d.1 d.2.1 d.2.2 = 0
      · rw [if_pos h, ih]
        constructor
        · intro hl x hx
          rcases List.mem_cons.1 hx with rfl | hx
          · exact right_deed h
          · exact hl x hx
        · exact fun hl x hx => hl x (by simp [hx])
      · rw [if_neg h]
        exact ⟨fun e => absurd e h, fun hl => absurd (right_wDeed (hl d (by simp))) h⟩
  unfold wrongE RightEnt
  by_cases h1 : e.1 < 0 ∨ 11 < e.1
  · rw [if_pos h1]
    exact ⟨(fun h => by cases h), fun h => by omega⟩
  · rw [if_neg h1]
    by_cases h2 : 6 < e.2.length
    · rw [if_pos h2]
      exact ⟨(fun h => by cases h), fun h => by omega⟩
    · rw [if_neg h2, hf]
      exact ⟨fun h => ⟨by omega, by omega, by omega, h⟩, fun h => h.2.2.2⟩
theorem lines_deeds : ∀ {l : List Deed3}, RightDs l → readLines (l.map printD) = (0, l)
  | [], _ => rfl
  | d :: l, h => by
    have hd : readT (printD d) = (0, d) := read_print (right_wDeed (h d (by simp)))
    have ih := lines_deeds (l := l) (fun x hx => h x (by simp [hx]))
    rw [List.map_cons, readLines, hd, ih]
    rfl
/-! ### There, and back -/
theorem dataE_length (e : Ent) : 0 < (dataE e).length := by simp [dataE]
theorem bytesE_length (e : Ent) : (bytesE e).length = (dataE e).length + 2 := by simp [bytesE]
theorem bytesE_take (e : Ent) : (bytesE e).take ((bytesE e).length - 2) = dataE e := by
  rw [bytesE_length, Nat.add_sub_cancel]
  unfold bytesE
  rw [List.take_left']
  rfl
theorem bytesE_hi (e : Ent) : (bytesE e).getD ((bytesE e).length - 2) 0 = UInt8.ofNat (sumT (dataE e) / 256) := by
  rw [bytesE_length, Nat.add_sub_cancel]
  unfold bytesE
  simp [List.getD]
theorem bytesE_lo (e : Ent) : (bytesE e).getD ((bytesE e).length - 1) 0 = UInt8.ofNat (sumT (dataE e) % 256) := by
  rw [bytesE_length, show (dataE e).length + 2 - 1 = (dataE e).length + 1 from rfl]
  unfold bytesE
  simp [List.getD]
theorem ofNat_small {n : Nat} (h : n < 256) : (UInt8.ofNat n).toNat = n := by
  rw [UInt8.toNat_ofNat']; exact Nat.mod_eq_of_lt h
theorem bytesE_sum (e : Ent) : sumOk (bytesE e) = true := by
  unfold sumOk
  have h := sumT_lt (dataE e)
  rw [bytesE_take, bytesE_hi, bytesE_lo, ofNat_small (by omega), ofNat_small (by omega)]
  exact decide_eq_true (by omega)
theorem read_bytes {e : Ent} (h : RightEnt e) : readE (bytesE e) = (0, e) := by
  obtain ⟨h0, h1, h2, h3⟩ := h
  have hlen := bytesE_length e
  have hpos := dataE_length e
  have hnum : ((bytesE e).getD 0 0).toNat = e.1.toNat := by
    have : (bytesE e).getD 0 0 = UInt8.ofNat e.1.toNat := rfl
    rw [this, ofNat_small (by omega)]
  have hlines : linesT [] ((dataE e).drop 1) = e.2.map printD := by
    show linesT [] (unlines (e.2.map printD)) = _
    refine un_lines _ fun x hx => ?_
    obtain ⟨d, hd, rfl⟩ := List.mem_map.1 hx
    exact print_line (h3 d hd)
  have hlast : ¬ (3 < (bytesE e).length ∧ (bytesE e).getD ((bytesE e).length - 3) 0 ≠ 10) := by
    rintro ⟨ha, hb⟩
    apply hb
    have hne : e.2.map printD ≠ [] := fun h => by
      have : (dataE e).length = 1 := by simp [dataE, h, unlines]
      omega
    have hl := un_last hne
    have e1 : (bytesE e).getD ((bytesE e).length - 3) 0 = (dataE e).getD ((dataE e).length - 1) 0 := by
      rw [hlen, show (dataE e).length + 2 - 3 = (dataE e).length - 1 from by omega]
      unfold bytesE
      simp only [List.getD]
      rw [List.getElem?_append_left (by omega)]
    have e2 : (dataE e).getLast? = some 10 := by
      show (UInt8.ofNat e.1.toNat :: unlines (e.2.map printD)).getLast? = _
      rw [List.getLast?_cons, hl]; rfl
    rw [e1, List.getD, ← List.getLast?_eq_getElem?, e2]
    rfl
  have hent : ((((bytesE e).getD 0 0).toNat : Int), e.2) = e := Prod.ext (by rw [hnum]; show ((e.1.toNat : Nat) : Int) = e.1; omega) rfl
  unfold readE
  rw [if_neg (by omega), if_neg (by rw [bytesE_sum]; simp), if_neg hlast]
  simp only [bytesE_take, hlines, lines_deeds h3, if_true, hent]
  rw [if_pos (wrongE_right.2 ⟨h0, h1, h2, h3⟩)]
/-! ### One byte turned is found -/
theorem turned_found {e : Ent} {i : Nat} {c : UInt8} (hi : i < (bytesE e).length) (hc : (bytesE e).getD i 0 ≠ c) : (readE ((bytesE e).set i c)).1 = 2 := by
  have hlen := bytesE_length e
  have hpos := dataE_length e
  have hl : ((bytesE e).set i c).length = (dataE e).length + 2 := by simp [hlen]
  have hsum : sumOk ((bytesE e).set i c) = false := by
    unfold sumOk
    rw [hl]
    have h := sumT_lt (dataE e)
    refine decide_eq_false ?_
    rw [show (dataE e).length + 2 - 2 = (dataE e).length from by omega, show (dataE e).length + 2 - 1 = (dataE e).length + 1 from by omega]
    by_cases h1 : i < (dataE e).length
    · have ht : ((bytesE e).set i c).take (dataE e).length = (dataE e).set i c := by
        rw [List.take_set]
        have := bytesE_take e
        rw [hlen, Nat.add_sub_cancel] at this
        rw [this]
      have hd : (dataE e).getD i 0 ≠ c := by
        have : (bytesE e).getD i 0 = (dataE e).getD i 0 := by
          unfold bytesE
          simp only [List.getD]
          rw [List.getElem?_append_left h1]
        rw [← this]; exact hc
      have e1 : ((bytesE e).set i c).getD (dataE e).length 0 = UInt8.ofNat (sumT (dataE e) / 256) := by
        have := bytesE_hi e
        rw [hlen, Nat.add_sub_cancel] at this
        rw [← this]
        simp only [List.getD]
        rw [List.getElem?_set_ne (by omega)]
      have e2 : ((bytesE e).set i c).getD ((dataE e).length + 1) 0 = UInt8.ofNat (sumT (dataE e) % 256) := by
        have := bytesE_lo e
        rw [hlen, show (dataE e).length + 2 - 1 = (dataE e).length + 1 from by omega] at this
        rw [← this]
        simp only [List.getD]
        rw [List.getElem?_set_ne (by omega)]
      rw [ht, e1, e2, ofNat_small (by omega), ofNat_small (by omega)]
      have := sumFrom_turn (dataE e) (s := 1) (by decide) i c h1 hd
      intro he
      apply this
      show sumT ((dataE e).set i c) = sumT (dataE e)
      omega
    · have ht : ((bytesE e).set i c).take (dataE e).length = dataE e := by
        rw [List.take_set_of_le (by omega)]
        have := bytesE_take e
        rw [hlen, Nat.add_sub_cancel] at this
        exact this
      rw [ht]
      have hhi := bytesE_hi e
      have hlo := bytesE_lo e
      rw [hlen, Nat.add_sub_cancel] at hhi
      rw [hlen, show (dataE e).length + 2 - 1 = (dataE e).length + 1 from by omega] at hlo
      have hcl := c.toNat_lt
      have hcase : i = (dataE e).length ∨ i = (dataE e).length + 1 := by omega
      rcases hcase with e0 | e0
      · rw [e0] at hc ⊢
        have e1 : ((bytesE e).set (dataE e).length c).getD (dataE e).length 0 = c := by
          simp only [List.getD]
          rw [List.getElem?_set_self (by omega)]; rfl
        have e2 : ((bytesE e).set (dataE e).length c).getD ((dataE e).length + 1) 0 = UInt8.ofNat (sumT (dataE e) % 256) := by
          rw [← hlo]
          simp only [List.getD]
          rw [List.getElem?_set_ne (by omega)]
        rw [e1, e2, ofNat_small (by omega)]
        intro he
        apply hc
        rw [hhi]
        have : c.toNat = sumT (dataE e) / 256 := by omega
        rw [← this]; exact UInt8.ofNat_toNat
      · rw [e0] at hc ⊢
        have e1 : ((bytesE e).set ((dataE e).length + 1) c).getD ((dataE e).length + 1) 0 = c := by
          simp only [List.getD]
          rw [List.getElem?_set_self (by omega)]; rfl
        have e2 : ((bytesE e).set ((dataE e).length + 1) c).getD (dataE e).length 0 = UInt8.ofNat (sumT (dataE e) / 256) := by
          rw [← hhi]
          simp only [List.getD]
          rw [List.getElem?_set_ne (by omega)]
        rw [e1, e2, ofNat_small (by omega)]
        intro he
        apply hc
        rw [hlo]
        have : c.toNat = sumT (dataE e) % 256 := by omega
        rw [← this]; exact UInt8.ofNat_toNat
  unfold readE
  rw [if_neg (by rw [hl]; omega), if_pos hsum]
end Go.Proofs.YthmkgfdglkdjmaeGreatDoor
