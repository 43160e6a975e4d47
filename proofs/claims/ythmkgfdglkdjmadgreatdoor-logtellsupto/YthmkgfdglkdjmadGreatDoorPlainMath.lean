/-
  Plain mathematics of doing a deed on rows: the rows then are those in which keys have what the deed made, and else what they had.
  Plain mathematics of deeds that are done one by one on rows: what keys have then, that rows stay right, and that deeds which share nothing may go in either order.
-/
import Derived.Test.YthmkgfdglkdjmadGreatDoorDeedMath
import Derived.Test.YthmkgfdglkdjmadGreatDoorRefMath
import Derived.Test.YthmkgfdglkdjmadGreatDoorTextTurn
namespace Go.Proofs.YthmkgfdglkdjmadGreatDoor
open Go.RowKit

/-- Is there something at k? -/
def isThere (l : List Row) (m : Made) (k : ByteArray) : Bool := match m k with
  | some (some _) => true
  | some none => false
  | none => isAt k l
/-- The rows L are l with what was made. -/
structure Over (L l : List Row) (m : Made) : Prop where
  srt : Srt L
  at_ : ∀ k, isAt k L = isThere l m k
  num_ : ∀ k, num k L = look (fun k => num k l) m k

theorem Over.start {l : List Row} (h : Srt l) : Over l l (fun _ => none) := ⟨h, fun _ => rfl, fun _ => rfl⟩
theorem Over.ins {L l : List Row} {m : Made} (h : Over L l m) (k : ByteArray) (n : Int) : Over (ins k n L) l (setM m k (some n)) := by
  refine ⟨srt_ins h.srt, fun j => ?_, fun j => ?_⟩
  · by_cases e : j = k
    · subst e; rw [isAt_ins]; simp [isThere, setM]
    · rw [(other_ins n e L h.srt).1, h.at_ j]; simp [isThere, setM, e]
  · by_cases e : j = k
    · subst e; rw [num_ins]; simp [look, setM]
    · rw [(other_ins n e L h.srt).2, h.num_ j]; simp [look, setM, e]
theorem num_del (k : ByteArray) {l : List Row} (h : Srt l) : num k (del k l) = 0 := num_not k _ (isAt_del k l h)
theorem Over.del {L l : List Row} {m : Made} (h : Over L l m) (k : ByteArray) : Over (del k L) l (setM m k none) := by
  refine ⟨srt_del h.srt, fun j => ?_, fun j => ?_⟩
  · by_cases e : j = k
    · subst e; rw [isAt_del _ _ h.srt]; simp [isThere, setM]
    · rw [(other_del e L h.srt).1, h.at_ j]; simp [isThere, setM, e]
  · by_cases e : j = k
    · subst e; rw [num_del _ h.srt]; simp [look, setM]
    · rw [(other_del e L h.srt).2, h.num_ j]; simp [look, setM, e]

/-- Rows that rise are told by what keys have. -/
theorem srt_ext : ∀ {a b : List Row}, Srt a → Srt b → (∀ k, isAt k a = isAt k b) → (∀ k, num k a = num k b) → a = b
  | [], [], _, _, _, _ => rfl
  | [], y :: b, _, _, h, _ => by
    have := h y.1
    simp [isAt, less_irrefl] at this
  | x :: a, [], _, _, h, _ => by
    have := h x.1
    simp [isAt, less_irrefl] at this
  | x :: a, y :: b, ha, hb, h, hn => by
    obtain ⟨hx, ha'⟩ := srt_cons.1 ha
    obtain ⟨hy, hb'⟩ := srt_cons.1 hb
    have e1 : x.1 = y.1 := by
      rcases less_cases x.1 y.1 with g | g | g
      · have := h x.1
        simp [isAt, less_irrefl, g, less_asymm g] at this
      · exact g
      · have := h y.1
        simp [isAt, less_irrefl, g, less_asymm g] at this
    have e2 : x.2 = y.2 := by
      have := hn x.1
      rw [num, num, e1] at this
      simpa [less_irrefl] using this
    have exy : x = y := Prod.ext e1 e2
    subst exy
    have step : ∀ k, isAt k a = isAt k b ∧ num k a = num k b := by
      intro k
      have h1 := h k
      have h2 := hn k
      rcases less_cases x.1 k with g | g | g
      · simp only [isAt, num, g, if_true] at h1 h2
        exact ⟨h1, h2⟩
      · have f1 := isAt_front (k := k) (l := a) fun y hy => by rw [← g]; exact hx y hy
        have f2 := isAt_front (k := k) (l := b) fun y hy' => by rw [← g]; exact hy y hy'
        rw [f1.1, f1.2, f2.1, f2.2]; exact ⟨rfl, rfl⟩
      · have f1 := isAt_front (k := k) (l := a) fun y hy => less_trans g (hx y hy)
        have f2 := isAt_front (k := k) (l := b) fun y hy' => less_trans g (hy y hy')
        rw [f1.1, f1.2, f2.1, f2.2]; exact ⟨rfl, rfl⟩
    rw [srt_ext ha' hb' (fun k => (step k).1) (fun k => (step k).2)]
theorem Over.one {L L' l : List Row} {m : Made} (h : Over L l m) (h' : Over L' l m) : L = L' :=
  srt_ext h.srt h'.srt (fun k => by rw [h.at_, h'.at_]) (fun k => by rw [h.num_, h'.num_])

/-- A key is given what was made, or loses what it has. -/
def putOne (l : List Row) (x : ByteArray × Option Int) : List Row := match x.2 with
  | some n => ins x.1 n l
  | none => del x.1 l
/-- What is told of a list of keys. -/
def madeOf (V : List (ByteArray × Option Int)) (m0 : Made) : Made := V.foldl (fun m x => setM m x.1 x.2) m0
theorem over_foldl : ∀ (V : List (ByteArray × Option Int)) (L l : List Row) (m : Made), Over L l m → Over (V.foldl putOne L) l (madeOf V m)
  | [], _, _, _, h => h
  | (k, some n) :: V, L, l, _, h => over_foldl V (ins k n L) l _ (h.ins k n)
  | (k, none) :: V, L, l, _, h => over_foldl V (del k L) l _ (h.del k)
theorem has_cons (w : ByteArray) (W : List ByteArray) (k : ByteArray) : has (w :: W) k = (decide (w = k) || has W k) := by simp [has]
theorem madeOf_vers (m : Made) : ∀ (W : List ByteArray) (m0 : Made), (∀ k, m0 k = none ∨ m0 k = m k) → ∀ k, madeOf (vers m W) m0 k = if (has W k && (m k).isSome) = true then m k else m0 k
  | [], m0, _, k => by simp [vers, madeOf, has]
  | w :: W, m0, h, k => by
    have hv : vers m (w :: W) = (match m w with | some o => [(w, o)] | none => []) ++ vers m W := by
      unfold vers
      rw [List.filterMap_cons]
      cases e : m w <;> simp
    rw [hv, has_cons]
    cases e : m w with
    | none =>
      simp only [List.nil_append]
      rw [madeOf_vers m W m0 h k]
      by_cases ek : w = k
      · subst ek; simp [e]
      · simp [ek]
    | some o =>
      show madeOf (vers m W) (setM m0 w o) k = _
      have h2 : ∀ j, setM m0 w o j = none ∨ setM m0 w o j = m j := by
        intro j
        by_cases ej : j = w
        · subst ej; right; simp [setM, e]
        · rcases h j with g | g
          · left; simp [setM, ej, g]
          · right; simp [setM, ej, g]
      rw [madeOf_vers m W (setM m0 w o) h2 k]
      by_cases ek : w = k
      · subst ek
        simp [e, setM]
      · have ek' : ¬ k = w := fun x => ek x.symm
        simp [ek, setM, ek']
theorem exec_keys (v : ByteArray → Int) (W : List ByteArray) : ∀ (l : List Ins) (s : Nat) (r : Nat → Int) (m : Made), (∀ i ∈ l, (i.kind = 6 ∨ i.kind = 7) → i.key ∈ W) → (∀ k, (m k).isSome = true → k ∈ W) → ∀ k, ((exec v l s r m).2.1 k).isSome = true → k ∈ W
  | [], _, _, _, _, hm => fun k h => hm k (by simpa [exec] using h)
  | i :: l, s + 1, r, m, hl, hm => fun k h => by
    rw [exec] at h
    exact exec_keys v W l s r m (fun j hj => hl j (by simp [hj])) hm k h
  | i :: l, 0, r, m, hl, hm => fun k h => by
    have hl' : ∀ j ∈ l, (j.kind = 6 ∨ j.kind = 7) → j.key ∈ W := fun j hj => hl j (by simp [hj])
    have hset : ∀ o, (i.kind = 6 ∨ i.kind = 7) → ∀ j, (setM m i.key o j).isSome = true → j ∈ W := fun o hk j hj => by
      by_cases e : j = i.key
      · rw [e]; exact hl i (by simp) hk
      · exact hm j (by simpa [setM, e] using hj)
    rw [exec] at h
    split at h
    · exact exec_keys v W l _ _ m hl' hm k h
    split at h
    · exact exec_keys v W l _ _ m hl' hm k h
    split at h
    · exact exec_keys v W l _ _ m hl' hm k h
    split at h
    · exact exec_keys v W l _ _ m hl' hm k h
    split at h
    · exact exec_keys v W l _ _ m hl' hm k h
    split at h
    · rename_i hk
      exact exec_keys v W l _ _ _ hl' (hset _ (.inl hk)) k h
    split at h
    · rename_i hk
      exact exec_keys v W l _ _ _ hl' (hset _ (.inr hk)) k h
    split at h
    · exact exec_keys v W l _ _ m hl' hm k h
    split at h
    · exact hm k h
    · exact exec_keys v W l _ _ m hl' hm k h
theorem right_keys {R W : List ByteArray} {C : List Ins} (h : RightD R W C) : ∀ i ∈ C, (i.kind = 6 ∨ i.kind = 7) → i.key ∈ W := fun i hi hk => by
  obtain ⟨j, hj, rfl⟩ := List.getElem_of_mem hi
  have := (right_instr (h.i j hj)).write
  simp only [List.getD, List.getElem?_eq_getElem hj, Option.getD_some] at this
  exact has_iff.1 (this hk)
end Go.Proofs.YthmkgfdglkdjmadGreatDoor

namespace Go.Proofs.YthmkgfdglkdjmadGreatDoor
open Go.RowKit

/-- A deed: what it reads, what it writes, its instructions. -/
abbrev Deed3 := List ByteArray × List ByteArray × List Ins
/-- How a deed ends: whether it failed, and its registers. -/
abbrev End3 := Bool × (Nat → Int)
def exD (l : List Row) (d : Deed3) : (Nat → Int) × Made × Bool := exec (fun k => num k l) d.2.2 0 zeroR zeroM
def doD (l : List Row) (d : Deed3) : List Row := if (exD l d).2.2 = true then l else (vers (exD l d).2.1 d.2.1).foldl putOne l
def endD (l : List Row) (d : Deed3) : End3 := ((exD l d).2.2, (exD l d).1)
def allD : List Row → List Deed3 → List Row
  | l, [] => l
  | l, d :: ds => allD (doD l d) ds
def RightDD (d : Deed3) : Prop := RightD d.1 d.2.1 d.2.2

/-! ### What keys have -/
theorem exD_keys {l : List Row} {d : Deed3} (h : RightDD d) : ∀ k, ((exD l d).2.1 k).isSome = true → k ∈ d.2.1 :=
  exec_keys _ d.2.1 d.2.2 0 zeroR zeroM (right_keys h) (fun k hk => by simp [zeroM] at hk)
theorem doD_fail {l : List Row} {d : Deed3} (h : (exD l d).2.2 = true) : doD l d = l := if_pos h
theorem doD_over {l : List Row} {d : Deed3} (hs : Srt l) (hd : RightDD d) (h : (exD l d).2.2 = false) : Over (doD l d) l (exD l d).2.1 := by
  have e : doD l d = (vers (exD l d).2.1 d.2.1).foldl putOne l := if_neg (by rw [h]; simp)
  have h1 := over_foldl (vers (exD l d).2.1 d.2.1) l l (fun _ => none) (Over.start hs)
  have e2 : madeOf (vers (exD l d).2.1 d.2.1) (fun _ => none) = (exD l d).2.1 := by
    funext k
    rw [madeOf_vers _ _ _ (fun _ => .inl rfl) k]
    cases e : (exD l d).2.1 k with
    | none => simp
    | some o => simp [has_iff.2 (exD_keys (l := l) hd k (by simp [e]))]
  rw [e2] at h1
  rw [e]; exact h1
theorem doD_num {l : List Row} {d : Deed3} (hs : Srt l) (hd : RightDD d) (k : ByteArray) : num k (doD l d) = if (exD l d).2.2 = true then num k l else look (fun k => num k l) (exD l d).2.1 k := by
  cases h : (exD l d).2.2 with
  | true => rw [doD_fail h]; simp
  | false => rw [(doD_over hs hd h).num_ k]; simp
theorem doD_at {l : List Row} {d : Deed3} (hs : Srt l) (hd : RightDD d) (k : ByteArray) : isAt k (doD l d) = if (exD l d).2.2 = true then isAt k l else isThere l (exD l d).2.1 k := by
  cases h : (exD l d).2.2 with
  | true => rw [doD_fail h]; simp
  | false => rw [(doD_over hs hd h).at_ k]; simp
/-- Keys that a deed does not write are as they were. -/
theorem doD_else {l : List Row} {d : Deed3} (hs : Srt l) (hd : RightDD d) {k : ByteArray} (hk : k ∉ d.2.1) : num k (doD l d) = num k l ∧ isAt k (doD l d) = isAt k l := by
  have hm : (exD l d).2.1 k = none := by
    cases e : (exD l d).2.1 k with
    | none => rfl
    | some o => exact absurd (exD_keys (l := l) hd k (by simp [e])) hk
  rw [doD_num hs hd, doD_at hs hd]
  constructor
  · split
    · rfl
    · simp [look, hm]
  · split
    · rfl
    · simp [isThere, hm]

/-! ### Rows stay right -/
theorem rnd_lo (x : Int) : -1073741824 ≤ rnd x := by
  unfold rnd; have := Int.tmod_lt_of_pos (-(wrap64 x)) (show (0 : Int) < 1073741825 by decide); rw [Int.neg_tmod] at this; omega
theorem rnd_hi (x : Int) : rnd x ≤ 1073741824 := by
  unfold rnd; have := Int.tmod_lt_of_pos (wrap64 x) (show (0 : Int) < 1073741825 by decide); omega
def InR (x : Int) : Prop := -1073741824 ≤ x ∧ x ≤ 1073741824
theorem inR_zero : InR 0 := ⟨by decide, by decide⟩
theorem inR_rnd (x : Int) : InR (rnd x) := ⟨rnd_lo x, rnd_hi x⟩
theorem inR_set {r : Nat → Int} (h : ∀ i, InR (r i)) (a : Nat) {x : Int} (hx : InR x) : ∀ i, InR (setR r a x i) := fun i => by
  unfold setR; split
  · exact hx
  · exact h i
def InM (m : Made) : Prop := ∀ k n, m k = some (some n) → InR n
theorem inM_set {m : Made} (h : InM m) (k : ByteArray) {o : Option Int} (ho : ∀ n, o = some n → InR n) : InM (setM m k o) := fun j n e => by
  unfold setM at e; split at e
  · exact ho n (Option.some.inj e)
  · exact h j n e
theorem inR_look {v : ByteArray → Int} {m : Made} (hv : ∀ k, InR (v k)) (hm : InM m) (k : ByteArray) : InR (look v m k) := by
  unfold look; split
  · rename_i n e; exact hm k n e
  · exact inR_zero
  · exact hv k
theorem exec_inR {v : ByteArray → Int} (hv : ∀ k, InR (v k)) : ∀ (l : List Ins) (s : Nat) (r : Nat → Int) (m : Made), (∀ i ∈ l, InR i.n) → (∀ i, InR (r i)) → InM m → (∀ i, InR ((exec v l s r m).1 i)) ∧ InM (exec v l s r m).2.1
  | [], _, r, m, _, hr, hm => by rw [exec]; exact ⟨hr, hm⟩
  | i :: l, s + 1, r, m, hl, hr, hm => by
    rw [exec]; exact exec_inR hv l s r m (fun j hj => hl j (by simp [hj])) hr hm
  | i :: l, 0, r, m, hl, hr, hm => by
    have hl' : ∀ j ∈ l, InR j.n := fun j hj => hl j (by simp [hj])
    rw [exec]
    split
    · exact exec_inR hv l _ _ _ hl' (inR_set hr _ (inR_look hv hm _)) hm
    split
    · exact exec_inR hv l _ _ _ hl' (inR_set hr _ (hl i (by simp))) hm
    split
    · exact exec_inR hv l _ _ _ hl' (inR_set hr _ (inR_rnd _)) hm
    split
    · exact exec_inR hv l _ _ _ hl' (inR_set hr _ (inR_rnd _)) hm
    split
    · exact exec_inR hv l _ _ _ hl' (inR_set hr _ (inR_rnd _)) hm
    split
    · exact exec_inR hv l _ _ _ hl' hr (inM_set hm _ (fun n e => by cases e; exact hr _))
    split
    · exact exec_inR hv l _ _ _ hl' hr (inM_set hm _ (fun n e => by cases e))
    split
    · exact exec_inR hv l _ _ _ hl' hr hm
    split
    · exact ⟨hr, hm⟩
    · exact exec_inR hv l _ _ _ hl' hr hm
theorem num_inR {l : List Row} (h : Right l) (k : ByteArray) : InR (num k l) := by
  induction l with
  | nil => exact inR_zero
  | cons x l ih =>
    have hx : InR x.2 := ⟨h.lo x (by simp), h.hi x (by simp)⟩
    have ht : Right l := ⟨(srt_cons.1 h.srt).2, fun y hy => h.key y (by simp [hy]), fun y hy => h.lo y (by simp [hy]), fun y hy => h.hi y (by simp [hy])⟩
    have hn := ih ht
    unfold num
    repeat' split
    all_goals first | exact hx | exact hn | exact inR_zero
theorem right_nums {d : Deed3} (h : RightDD d) : ∀ i ∈ d.2.2, InR i.n := fun i hi => by
  obtain ⟨j, hj, rfl⟩ := List.getElem_of_mem hi
  have hc := h.c
  have := right_norm (by omega) (h.i j hj)
  simp only [List.getD, List.getElem?_eq_getElem hj, Option.getD_some] at this
  exact ⟨this.lo, this.hi⟩
theorem right_putOne {l : List Row} (h : Right l) {x : ByteArray × Option Int} (hk : keyB x.1 = true) (hn : ∀ n, x.2 = some n → InR n) : Right (putOne l x) := by
  unfold putOne
  split
  · rename_i n e; exact right_ins h hk (hn n e).1 (hn n e).2
  · exact right_del h
theorem right_foldl : ∀ (V : List (ByteArray × Option Int)) {l : List Row}, Right l → (∀ x ∈ V, keyB x.1 = true ∧ ∀ n, x.2 = some n → InR n) → Right (V.foldl putOne l)
  | [], _, h, _ => h
  | x :: V, l, h, hV => right_foldl V (right_putOne h (hV x (by simp)).1 (hV x (by simp)).2) (fun y hy => hV y (by simp [hy]))
theorem vers_mem {m : Made} {W : List ByteArray} {x : ByteArray × Option Int} (h : x ∈ vers m W) : x.1 ∈ W ∧ m x.1 = some x.2 := by
  unfold vers at h
  obtain ⟨k, hk, e⟩ := List.mem_filterMap.1 h
  cases e2 : m k with
  | none => rw [e2] at e; cases e
  | some o =>
    rw [e2] at e
    simp only [Option.map_some, Option.some.injEq] at e
    subst e
    exact ⟨hk, e2⟩
/-- Right rows are right behind a right deed. -/
theorem doD_right {l : List Row} {d : Deed3} (h : Right l) (hd : RightDD d) : Right (doD l d) := by
  cases hf : (exD l d).2.2 with
  | true => rw [doD_fail hf]; exact h
  | false =>
    unfold doD
    rw [if_neg (by rw [hf]; simp)]
    refine right_foldl _ h fun x hx => ?_
    obtain ⟨h1, h2⟩ := vers_mem hx
    refine ⟨wKeys_key hd.w h1, fun n e => ?_⟩
    rw [e] at h2
    exact (exec_inR (num_inR h) d.2.2 0 zeroR zeroM (right_nums hd) (fun _ => inR_zero) (fun k n e => by cases e)).2 x.1 n h2
/-! ### Who shares nothing may go first -/
theorem exec_same {v v' : ByteArray → Int} : ∀ (l : List Ins) (s : Nat) (r : Nat → Int) (m : Made), (∀ i ∈ l, i.kind = 1 → v i.key = v' i.key) → exec v l s r m = exec v' l s r m
  | [], _, _, _, _ => rfl
  | i :: l, s + 1, r, m, h => by
    rw [exec, exec]; exact exec_same l s r m (fun j hj => h j (by simp [hj]))
  | i :: l, 0, r, m, h => by
    have h' : ∀ j ∈ l, j.kind = 1 → v j.key = v' j.key := fun j hj => h j (by simp [hj])
    rw [exec, exec]
    split
    · rename_i hk
      have : look v m i.key = look v' m i.key := by
        unfold look; split
        · rfl
        · rfl
        · exact h i (by simp) hk
      rw [this]
      exact exec_same l _ _ _ h'
    repeat' split
    all_goals first | rfl | exact exec_same l _ _ _ h'
theorem right_loads {d : Deed3} (h : RightDD d) : ∀ i ∈ d.2.2, i.kind = 1 → i.key ∈ d.1 := fun i hi hk => by
  obtain ⟨j, hj, rfl⟩ := List.getElem_of_mem hi
  have := (right_instr (h.i j hj)).load
  simp only [List.getD, List.getElem?_eq_getElem hj, Option.getD_some] at this
  exact has_iff.1 (this hk)
end Go.Proofs.YthmkgfdglkdjmadGreatDoor
