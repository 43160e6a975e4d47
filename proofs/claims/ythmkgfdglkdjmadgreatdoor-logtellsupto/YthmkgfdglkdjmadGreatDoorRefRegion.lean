/-
  The statement in which the document adds one word to an instruction's text, in whatever order its operations come up.
-/
import Derived.Test.YthmkgfdglkdjmadGreatDoorPlanOwn
import Derived.Test.YthmkgfdglkdjmadGreatDoorMapRune
namespace Go.Proofs.YthmkgfdglkdjmadGreatDoor
open Go.RowKit

/-- The operations. -/
def infoP : Nat → Option Nat × Op
  | 0 => (some 60, .move (.tmp 3))
  | 1 => (some 61, .binOp .add 9 (.tmp 60) (.const (.string ⟨#[32]⟩)) 9)
  | 2 => (some 62, .makeMap 127 none)
  | 3 => (some 63, .fieldAddr 101 (.tmp 9) 1)
  | 4 => (some 64, .load 3 (.tmp 63))
  | 5 => (some 65, .call { callee := .value (.func 80), args := #[.tmp 64], argTypes := #[3] })
  | 6 => (some 66, .binOp .add 9 (.const (.string ⟨#[114]⟩)) (.tmp 65) 9)
  | 7 => (none, .insert 127 (.tmp 62) (.const (.int .i32 114)) (.tmp 66))
  | 8 => (some 67, .fieldAddr 101 (.tmp 9) 2)
  | 9 => (some 68, .load 3 (.tmp 67))
  | 10 => (some 69, .call { callee := .value (.func 80), args := #[.tmp 68], argTypes := #[3] })
  | 11 => (some 70, .binOp .add 9 (.const (.string ⟨#[114]⟩)) (.tmp 69) 9)
  | 12 => (none, .insert 127 (.tmp 62) (.const (.int .i32 115)) (.tmp 70))
  | 13 => (some 71, .fieldAddr 101 (.tmp 9) 3)
  | 14 => (some 72, .load 3 (.tmp 71))
  | 15 => (some 73, .call { callee := .value (.func 80), args := #[.tmp 72], argTypes := #[3] })
  | 16 => (none, .insert 127 (.tmp 62) (.const (.int .i32 110)) (.tmp 73))
  | 17 => (some 74, .fieldAddr 101 (.tmp 9) 4)
  | 18 => (some 75, .load 9 (.tmp 74))
  | 19 => (none, .insert 127 (.tmp 62) (.const (.int .i32 107)) (.tmp 75))
  | 20 => (some 76, .move (.tmp 62))
  | 21 => (some 77, .move (.tmp 11))
  | 22 => (some 78, .lookup 127 (.tmp 76) (.tmp 77) false)
  | 23 => (some 79, .binOp .add 9 (.tmp 61) (.tmp 78) 9)
  | _ => (some 3, .assign (.tmp 79))
/-- Whom each waits for, as far as it matters. -/
def waitsP : Nat → List Nat
  | 1 => [0] | 4 => [3] | 5 => [4] | 6 => [5] | 7 => [2, 6] | 9 => [8] | 10 => [9] | 11 => [10] | 12 => [2, 11] | 14 => [13] | 15 => [14] | 16 => [2, 15] | 18 => [17] | 19 => [2, 18]
  | 20 => [2, 7, 12, 16, 19] | 22 => [20, 21] | 23 => [1, 22] | 24 => [0, 23] | _ => []
/-- These are they. -/
structure IsP (ops : Array Oper) : Prop where
  size : ops.size = 25
  info : ∀ j, j < 25 → ∃ o, ops[j]? = some o ∧ o.dst = (infoP j).1 ∧ o.op = (infoP j).2 ∧ o.guard = none
  waits : ∀ (j : Nat) (o : Oper), ops[j]? = some o → ∀ k ∈ waitsP j, ∃ e ∈ o.after, e.on = k ∧ Region.binds .any e = true
  back : ∀ (j : Nat) (o : Oper), ops[j]? = some o → ∀ e ∈ o.after, e.on < j

/-- What the word of a letter is. -/
def wordOf (i : Ins) (c : UInt8) : ByteArray := ofT (fillP i (placeOf c))
/-- What each operation leaves: Y is the text ahead, I where the instruction lies, c the letter, m the map. -/
def valP (Y : ByteArray) (I : Nat) (i : Ins) (c : UInt8) (m : Nat) : Nat → Value
  | 0 => .string Y
  | 1 => .string (Y ++ ⟨#[32]⟩)
  | 2 => .map (some m)
  | 3 => .pointer (some ⟨I, 1, none⟩)
  | 4 => .int .i64 i.a
  | 5 => .string (ofT (Lib.itoa i.a))
  | 6 => .string (⟨#[114]⟩ ++ ofT (Lib.itoa i.a))
  | 8 => .pointer (some ⟨I, 2, none⟩)
  | 9 => .int .i64 i.b
  | 10 => .string (ofT (Lib.itoa i.b))
  | 11 => .string (⟨#[114]⟩ ++ ofT (Lib.itoa i.b))
  | 13 => .pointer (some ⟨I, 3, none⟩)
  | 14 => .int .i64 i.n
  | 15 => .string (ofT (Lib.itoa i.n))
  | 17 => .pointer (some ⟨I, 4, none⟩)
  | 18 => .string i.key
  | 20 => .map (some m)
  | 21 => .int .i32 c.toNat
  | 22 => .string (wordOf i c)
  | 23 => .string (Y ++ ⟨#[32]⟩ ++ wordOf i c)
  | 24 => .string (Y ++ ⟨#[32]⟩ ++ wordOf i c)
  | _ => undef
def dstP : Nat → Option Nat
  | 0 => some 60 | 1 => some 61 | 2 => some 62 | 3 => some 63 | 4 => some 64 | 5 => some 65 | 6 => some 66 | 8 => some 67 | 9 => some 68 | 10 => some 69 | 11 => some 70
  | 13 => some 71 | 14 => some 72 | 15 => some 73 | 17 => some 74 | 18 => some 75 | 20 => some 76 | 21 => some 77 | 22 => some 78 | 23 => some 79 | 24 => some 3
  | _ => none
theorem dstP_inj {i j d : Nat} (hi : i < 25) (hj : j < 25) (h1 : dstP i = some d) (h2 : dstP j = some d) : i = j := by
  have key : ∀ i, i < 25 → ∀ j, j < 25 → dstP i ≠ none → dstP i = dstP j → i = j := by decide
  exact key i hi j hj (by rw [h1]; simp) (by rw [h1, h2])
/-- The map when those are listed. -/
def mapP (i : Ins) (l : Array Bool) : Int → Option Value := fun k =>
  if k = 114 then (if l.getD 7 false = true then some (.string (⟨#[114]⟩ ++ ofT (Lib.itoa i.a))) else none)
  else if k = 115 then (if l.getD 12 false = true then some (.string (⟨#[114]⟩ ++ ofT (Lib.itoa i.b))) else none)
  else if k = 110 then (if l.getD 16 false = true then some (.string (ofT (Lib.itoa i.n))) else none)
  else if k = 107 then (if l.getD 19 false = true then some (.string i.key) else none)
  else none
theorem getD_set {l : Array Bool} {i j : Nat} (h : l.size = 25) (hi : i < 25) : (l.setIfInBounds i true).getD j false = (if j = i then true else l.getD j false) := by
  by_cases e : j = i
  · subst e; simp [h, hi]
  · have e' : ¬ i = j := fun x => e x.symm
    simp [e, e']

/-- All words lie in the map. -/
def FullP (l : Array Bool) : Prop := l.getD 2 false = true ∧ l.getD 7 false = true ∧ l.getD 12 false = true ∧ l.getD 16 false = true ∧ l.getD 19 false = true
theorem FullP.up {l : Array Bool} (h : FullP l) (hs : l.size = 25) {j : Nat} (hj : j < 25) : FullP (l.setIfInBounds j true) := by
  obtain ⟨h1, h2, h3, h4, h5⟩ := h
  have g : ∀ k, l.getD k false = true → (l.setIfInBounds j true).getD k false = true := fun k hk => by
    rw [getD_set hs hj]; split
    · rfl
    · exact hk
  exact ⟨g _ h1, g _ h2, g _ h3, g _ h4, g _ h5⟩
/-- What holds between any two operations. -/
structure PI (a0 : Act) (w0 : World) (Y : ByteArray) (I : Nat) (i : Ins) (c : UInt8) (l : Array Bool) (a : Act) (w : World) (m n : Nat) : Prop where
  size : l.size = 25
  defers : a.defers = a0.defers
  tsize : a.tmps.size = a0.tmps.size
  frame : ∀ s, (∀ j, j < 25 → dstP j ≠ some s) → a.tmps[s]? = a0.tmps[s]?
  bel : Below w0.heap.size w0 w
  mlo : w0.heap.size ≤ m
  cnt : n + left l ≤ 25
  vals : ∀ j d, j < 25 → dstP j = some d → l.getD j false = true → a.tmps[d]? = some (valP Y I i c m j)
  map : l.getD 2 false = true → MapR w m n (mapP i l)
  early : l.getD 24 false = false → a.tmps[3]? = some (.string Y)
  late : l.getD 24 false = true → l.getD 0 false = true
  ins : l.getD 2 false = false → l.getD 7 false = false ∧ l.getD 12 false = false ∧ l.getD 16 false = false ∧ l.getD 19 false = false ∧ l.getD 20 false = false
  full : l.getD 20 false = true → FullP l

theorem getD_of {a : Act} {n : Nat} {v : Value} (h : a.tmps[n]? = some v) : a.eval (.tmp n) = v := by simp [Act.eval, h]
theorem unlisted_false {l : Array Bool} {j : Nat} (h : l.getD j true = false) : l.getD j false = false := by
  by_cases hj : j < l.size
  · simp [hj] at h ⊢; exact h
  · simp [hj] at h
theorem mapP_keep (i : Ins) {l : Array Bool} (hs : l.size = 25) {j : Nat} (hj : j < 25) (h : j ≠ 7 ∧ j ≠ 12 ∧ j ≠ 16 ∧ j ≠ 19) : mapP i (l.setIfInBounds j true) = mapP i l := by
  funext k
  unfold mapP
  have g : ∀ k, k ≠ j → (l.setIfInBounds j true).getD k false = l.getD k false := fun k hk => by rw [getD_set hs hj, if_neg hk]
  rw [g 7 (fun e => h.1 e.symm), g 12 (fun e => h.2.1 e.symm), g 16 (fun e => h.2.2.1 e.symm), g 19 (fun e => h.2.2.2 e.symm)]

/-- An operation that only leaves its value. -/
theorem PI.pure {a0 : Act} {w0 : World} {Y : ByteArray} {I : Nat} {i : Ins} {c : UInt8} {l : Array Bool} {a : Act} {w w' : World} {m n : Nat} (h : PI a0 w0 Y I i c l a w m n) {j d : Nat} (hj : j < 25) (hd : dstP j = some d) (hb : Below w.heap.size w w')
    (hx : j ≠ 2 ∧ j ≠ 7 ∧ j ≠ 12 ∧ j ≠ 16 ∧ j ≠ 19 ∧ j ≠ 24) (hu : l.getD j true = false) (hsz : d < a0.tmps.size) (h20 : j = 20 → FullP l) : PI a0 w0 Y I i c (l.setIfInBounds j true) (a.put (some d) (valP Y I i c m j)) w' m n := by
  have hl := left_set hu
  have hc := h.cnt
  have hd3 : d ≠ 3 := fun e => by
    subst e
    exact hx.2.2.2.2.2 (dstP_inj hj (by decide) hd rfl)
  have gs : ∀ k, (l.setIfInBounds j true).getD k false = (if k = j then true else l.getD k false) := fun k => getD_set h.size hj
  have ne : ∀ k, k ≠ j → (l.setIfInBounds j true).getD k false = l.getD k false := fun k hk => by rw [gs, if_neg hk]
  refine ⟨by simpa using h.size, h.defers, by simpa [Act.put] using h.tsize, fun s hs => ?_, below_deep h.bel hb, h.mlo, by omega, fun k e hk he hlk => ?_, fun h2 => ?_, fun h24 => ?_, fun h24 => ?_, fun h2 => ?_, fun hf => ?_⟩
  · have : d ≠ s := fun e => hs j hj (by rw [hd, e])
    show (a.tmps.setIfInBounds d _)[s]? = _
    rw [Array.getElem?_setIfInBounds, if_neg this]; exact h.frame s hs
  · show (a.tmps.setIfInBounds d _)[e]? = _
    by_cases hkj : k = j
    · subst hkj
      obtain rfl : d = e := Option.some.inj (hd.symm.trans he)
      rw [Array.getElem?_setIfInBounds, if_pos rfl, if_pos (by rw [h.tsize]; exact hsz)]
    · have : d ≠ e := fun x => hkj (dstP_inj hk hj he (by rw [hd, x]))
      rw [Array.getElem?_setIfInBounds, if_neg this]
      exact h.vals k e hk he (by rw [← ne k hkj]; exact hlk)
  · rw [ne 2 (fun e => hx.1 e.symm)] at h2
    rw [mapP_keep i h.size hj ⟨hx.2.1, hx.2.2.1, hx.2.2.2.1, hx.2.2.2.2.1⟩]
    exact (h.map h2).below hb
  · rw [ne 24 (fun e => hx.2.2.2.2.2 e.symm)] at h24
    show (a.tmps.setIfInBounds d _)[3]? = _
    rw [Array.getElem?_setIfInBounds, if_neg hd3]; exact h.early h24
  · rw [ne 24 (fun e => hx.2.2.2.2.2 e.symm)] at h24
    rw [gs]
    split
    · rfl
    · exact h.late h24
  · rw [ne 2 (fun e => hx.1 e.symm)] at h2
    rw [ne 7 (fun e => hx.2.1 e.symm), ne 12 (fun e => hx.2.2.1 e.symm), ne 16 (fun e => hx.2.2.2.1 e.symm), ne 19 (fun e => hx.2.2.2.2.1 e.symm), ne 20 (fun e => by rw [(h20 e.symm).1] at h2; cases h2)]
    exact h.ins h2
  · by_cases e : j = 20
    · exact (h20 e).up h.size hj
    · rw [ne 20 (fun x => e x.symm)] at hf; exact (h.full hf).up h.size hj
theorem valP_m (Y : ByteArray) (I : Nat) (i : Ins) (c : UInt8) (m m' : Nat) {j : Nat} (h2 : j ≠ 2) (h20 : j ≠ 20) : valP Y I i c m j = valP Y I i c m' j := by
  unfold valP
  split <;> first | rfl | exact absurd rfl h2 | exact absurd rfl h20
/-- The map is made. -/
theorem PI.make {a0 : Act} {w0 : World} {Y : ByteArray} {I : Nat} {i : Ins} {c : UInt8} {l : Array Bool} {a : Act} {w : World} {m n : Nat} (h : PI a0 w0 Y I i c l a w m n) (hu : l.getD 2 true = false) (hsz : 62 < a0.tmps.size) :
    PI a0 w0 Y I i c (l.setIfInBounds 2 true) (a.put (some 62) (.map (some w.heap.size))) (w.alloc (.map #[] 0)) w.heap.size 0 := by
  have hl := left_set hu
  have hc := h.cnt
  have h2f := unlisted_false hu
  obtain ⟨i7, i12, i16, i19, i20⟩ := h.ins h2f
  have gs : ∀ k, (l.setIfInBounds 2 true).getD k false = (if k = 2 then true else l.getD k false) := fun k => getD_set h.size (by decide)
  have ne : ∀ k, k ≠ 2 → (l.setIfInBounds 2 true).getD k false = l.getD k false := fun k hk => by rw [gs, if_neg hk]
  refine ⟨by simpa using h.size, h.defers, by simpa [Act.put] using h.tsize, fun s hs => ?_, below_deep h.bel (grew _ _), h.bel.size, by omega, fun k e hk he hlk => ?_, fun _ => ?_, fun h24 => ?_, fun h24 => ?_, fun h2 => ?_, fun hf => ?_⟩
  · have : 62 ≠ s := fun e => hs 2 (by decide) (by rw [← e]; rfl)
    show (a.tmps.setIfInBounds 62 _)[s]? = _
    rw [Array.getElem?_setIfInBounds, if_neg this]; exact h.frame s hs
  · show (a.tmps.setIfInBounds 62 _)[e]? = _
    by_cases hkj : k = 2
    · subst hkj
      obtain rfl : 62 = e := Option.some.inj he
      rw [Array.getElem?_setIfInBounds, if_pos rfl, if_pos (by rw [h.tsize]; exact hsz)]; rfl
    · have : 62 ≠ e := fun x => hkj (dstP_inj hk (by decide) he (by rw [← x]; rfl))
      rw [ne k hkj] at hlk
      have h20 : k ≠ 20 := fun x => by rw [x, i20] at hlk; cases hlk
      rw [Array.getElem?_setIfInBounds, if_neg this, h.vals k e hk he hlk, valP_m Y I i c m w.heap.size hkj h20]
  · have : mapP i (l.setIfInBounds 2 true) = fun _ => none := by
      funext k
      unfold mapP
      rw [ne 7 (by decide), ne 12 (by decide), ne 16 (by decide), ne 19 (by decide), i7, i12, i16, i19]
      simp
    rw [this]
    exact MapR.made w
  · rw [ne 24 (by decide)] at h24
    show (a.tmps.setIfInBounds 62 _)[3]? = _
    rw [Array.getElem?_setIfInBounds, if_neg (by decide)]; exact h.early h24
  · rw [ne 24 (by decide)] at h24
    rw [ne 0 (by decide)]; exact h.late h24
  · rw [gs, if_pos rfl] at h2; cases h2
  · rw [ne 20 (by decide), i20] at hf; cases hf
/-- A word is laid into the map. -/
theorem PI.lay {a0 : Act} {w0 : World} {Y : ByteArray} {I : Nat} {i : Ins} {c : UInt8} {l : Array Bool} {a : Act} {w w' : World} {m n : Nat} (h : PI a0 w0 Y I i c l a w m n) {j : Nat} (hj : j = 7 ∨ j = 12 ∨ j = 16 ∨ j = 19) (hu : l.getD j true = false) (h2 : l.getD 2 false = true)
    (hm : MapR w' m (n + 1) (mapP i (l.setIfInBounds j true))) (hg : w.grownBy w' (some m)) : PI a0 w0 Y I i c (l.setIfInBounds j true) a w' m (n + 1) := by
  have hl := left_set hu
  have hc := h.cnt
  have hj25 : j < 25 := by omega
  have gs : ∀ k, (l.setIfInBounds j true).getD k false = (if k = j then true else l.getD k false) := fun k => getD_set h.size hj25
  have ne : ∀ k, k ≠ j → (l.setIfInBounds j true).getD k false = l.getD k false := fun k hk => by rw [gs, if_neg hk]
  refine ⟨by simpa using h.size, h.defers, h.tsize, h.frame, h.bel.grown hg h.bel.size (fun k hk => by cases hk; exact h.mlo), h.mlo, by omega, fun k e hk he hlk => ?_, fun _ => hm, fun h24 => ?_, fun h24 => ?_, fun h2' => ?_, fun hf => ?_⟩
  · have : k ≠ j := fun x => by
      subst x
      rcases hj with rfl | rfl | rfl | rfl <;> cases he
    exact h.vals k e hk he (by rw [← ne k this]; exact hlk)
  · rw [ne 24 (by omega)] at h24; exact h.early h24
  · rw [ne 24 (by omega)] at h24
    rw [ne 0 (by omega)]; exact h.late h24
  · rw [ne 2 (by omega), h2] at h2'; cases h2'
  · rw [ne 20 (by omega)] at hf; exact (h.full hf).up h.size hj25
/-- The text is told. -/
theorem PI.tell {a0 : Act} {w0 : World} {Y : ByteArray} {I : Nat} {i : Ins} {c : UInt8} {l : Array Bool} {a : Act} {w : World} {m n : Nat} (h : PI a0 w0 Y I i c l a w m n) (hu : l.getD 24 true = false) (h0 : l.getD 0 false = true) (hsz : 3 < a0.tmps.size) :
    PI a0 w0 Y I i c (l.setIfInBounds 24 true) (a.put (some 3) (valP Y I i c m 24)) w m n := by
  have hl := left_set hu
  have hc := h.cnt
  have gs : ∀ k, (l.setIfInBounds 24 true).getD k false = (if k = 24 then true else l.getD k false) := fun k => getD_set h.size (by decide)
  have ne : ∀ k, k ≠ 24 → (l.setIfInBounds 24 true).getD k false = l.getD k false := fun k hk => by rw [gs, if_neg hk]
  refine ⟨by simpa using h.size, h.defers, by simpa [Act.put] using h.tsize, fun s hs => ?_, h.bel, h.mlo, by omega, fun k e hk he hlk => ?_, fun h2 => ?_, fun h24 => ?_, fun _ => ?_, fun h2 => ?_, fun hf => ?_⟩
  · have : 3 ≠ s := fun e => hs 24 (by decide) (by rw [← e]; rfl)
    show (a.tmps.setIfInBounds 3 _)[s]? = _
    rw [Array.getElem?_setIfInBounds, if_neg this]; exact h.frame s hs
  · show (a.tmps.setIfInBounds 3 _)[e]? = _
    by_cases hkj : k = 24
    · subst hkj
      obtain rfl : 3 = e := Option.some.inj he
      rw [Array.getElem?_setIfInBounds, if_pos rfl, if_pos (by rw [h.tsize]; exact hsz)]
    · have : 3 ≠ e := fun x => hkj (dstP_inj hk (by decide) he (by rw [← x]; rfl))
      rw [Array.getElem?_setIfInBounds, if_neg this]
      exact h.vals k e hk he (by rw [← ne k hkj]; exact hlk)
  · rw [ne 2 (by decide)] at h2
    rw [mapP_keep i h.size (by decide) (by decide)]
    exact h.map h2
  · rw [gs, if_pos rfl] at h24; cases h24
  · rw [ne 0 (by decide)]; exact h0
  · rw [ne 2 (by decide)] at h2
    rw [ne 7 (by decide), ne 12 (by decide), ne 16 (by decide), ne 19 (by decide), ne 20 (by decide)]
    exact h.ins h2
  · rw [ne 20 (by decide)] at hf; exact (h.full hf).up h.size (by decide)
theorem wpOp_value {P : Program} {ops : Array Oper} {Q : Exit → Act → World → Prop} {K : Act → World → Prop} {j : Nat} {o : Oper} {a : Act} {w w' : World} {v : Value} (ho : ops[j]? = some o) (hg : o.guard = none) (hr : (execOp a.eval o).run P w = .ok (.value v) w') (h : K (a.put o.dst v) w') : wpOp P ops Q j K a w := by
  unfold wpOp
  simp only [ho, Region.wanted, hg, if_true]
  left
  unfold Oper.wp
  rw [hr]; exact h
theorem wpOp_skip {P : Program} {ops : Array Oper} {Q : Exit → Act → World → Prop} {K : Act → World → Prop} {j : Nat} {o : Oper} {a : Act} {w w' : World} (ho : ops[j]? = some o) (hg : o.guard = none) (hr : (execOp a.eval o).run P w = .ok .skip w') (h : K (a.put o.dst undef) w') : wpOp P ops Q j K a w := by
  unfold wpOp
  simp only [ho, Region.wanted, hg, if_true]
  left
  unfold Oper.wp
  rw [hr]; exact h
theorem wpOp_call {P : Program} {ops : Array Oper} {Q : Exit → Act → World → Prop} {K : Act → World → Prop} {j f : Nat} {args : Array Value} {o : Oper} {a : Act} {w : World} (ho : ops[j]? = some o) (hg : o.guard = none) (hr : (execOp a.eval o).run P w = .ok (.enter f args) w)
    (h : Calls P f args w fun e w' => ∃ v, e = .returned v ∧ K (a.put o.dst v) w') : wpOp P ops Q j K a w := by
  unfold wpOp
  simp only [ho, Region.wanted, hg, if_true]
  left
  unfold Oper.wp
  rw [hr]
  refine h.mono ?_
  rintro e w' ⟨v, rfl, hk⟩
  exact hk
end Go.Proofs.YthmkgfdglkdjmadGreatDoor
