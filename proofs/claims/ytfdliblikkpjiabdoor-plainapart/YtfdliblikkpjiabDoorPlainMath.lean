/-
  Plain mathematics of deeds that are done one by one on rows: what keys have then, that rows stay right, and that deeds which share nothing may go in either order.
-/
import Derived.Test.YtfdliblikkpjiabDoorDoMath
import Derived.Test.YtfdliblikkpjiabDoorTextTurn
namespace Go.Proofs.YtfdliblikkpjiabDoor
open Go.RowKit

/-- A deed: what it reads, what it writes, its instructions. -/
abbrev Deed3 := List ByteArray × List ByteArray × List Ins
/-- How a deed ends: whether it failed, and its registers. -/
abbrev End3 := Bool × (Nat → Int)
def exD (l : List Row) (d : Deed3) : (Nat → Int) × Made × Bool := exec (fun k => num k l) d.2.2 0 zeroR zeroM
def doD (l : List Row) (d : Deed3) : List Row := if (exD l d).2.2 = true then l else (vers (exD l d).2.1 d.2.1).foldl putOne l
def endD (l : List Row) (d : Deed3) : End3 := ((exD l d).2.2, (exD l d).1)
def allD : List Row → List Deed3 → List Row
  | l, [] => l
  | l, d :: ds => allD (doD l d) ds
def endsD : List Row → List Deed3 → List End3
  | _, [] => []
  | l, d :: ds => endD l d :: endsD (doD l d) ds
def RightDD (d : Deed3) : Prop := RightD d.1 d.2.1 d.2.2

/-! ### What keys have -/
theorem exD_keys {l : List Row} {d : Deed3} (h : RightDD d) : ∀ k, ((exD l d).2.1 k).isSome = true → k ∈ d.2.1 :=
  exec_keys _ d.2.1 d.2.2 0 zeroR zeroM (right_keys h) (fun k hk => by simp [zeroM] at hk)
theorem doD_fail {l : List Row} {d : Deed3} (h : (exD l d).2.2 = true) : doD l d = l := if_pos h
theorem doD_over {l : List Row} {d : Deed3} (hs : Srt l) (hd : RightDD d) (h : (exD l d).2.2 = false) : Over (doD l d) l (exD l d).2.1 := by
  have e : doD l d = (vers (exD l d).2.1 d.2.1).foldl putOne l := if_neg (by rw [h]; simp)
  have h1 := over_foldl (vers (exD l d).2.1 d.2.1) l l (fun _ => none) (Over.start hs)
  have e2 : madeOf (vers (exD l d).2.1 d.2.1) (fun _ => none) = (exD l d).2.1 := by
    funext k
    rw [madeOf_vers _ _ _ (fun _ => .inl rfl) k]
    cases e : (exD l d).2.1 k with
    | none => simp
    | some o => simp [has_iff.2 (exD_keys (l := l) hd k (by simp [e]))]
  rw [e2] at h1
  rw [e]; exact h1
/-- Rows that are l with what was made are the rows then. -/
theorem over_doD {L l : List Row} {d : Deed3} (hs : Srt l) (hd : RightDD d) (h : (exD l d).2.2 = false) (hL : Over L l (exD l d).2.1) : L = doD l d := hL.one (doD_over hs hd h)
theorem doD_srt {l : List Row} {d : Deed3} (hs : Srt l) (hd : RightDD d) : Srt (doD l d) := by
  cases h : (exD l d).2.2 with
  | true => rw [doD_fail h]; exact hs
  | false => exact (doD_over hs hd h).srt
theorem doD_num {l : List Row} {d : Deed3} (hs : Srt l) (hd : RightDD d) (k : ByteArray) : num k (doD l d) = if (exD l d).2.2 = true then num k l else look (fun k => num k l) (exD l d).2.1 k := by
  cases h : (exD l d).2.2 with
  | true => rw [doD_fail h]; simp
  | false => rw [(doD_over hs hd h).num_ k]; simp
theorem doD_at {l : List Row} {d : Deed3} (hs : Srt l) (hd : RightDD d) (k : ByteArray) : isAt k (doD l d) = if (exD l d).2.2 = true then isAt k l else isThere l (exD l d).2.1 k := by
  cases h : (exD l d).2.2 with
  | true => rw [doD_fail h]; simp
  | false => rw [(doD_over hs hd h).at_ k]; simp
/-- Keys that a deed does not write are as they were. -/
theorem doD_else {l : List Row} {d : Deed3} (hs : Srt l) (hd : RightDD d) {k : ByteArray} (hk : k ∉ d.2.1) : num k (doD l d) = num k l ∧ isAt k (doD l d) = isAt k l := by
  have hm : (exD l d).2.1 k = none := by
    cases e : (exD l d).2.1 k with
    | none => rfl
    | some o => exact absurd (exD_keys (l := l) hd k (by simp [e])) hk
  rw [doD_num hs hd, doD_at hs hd]
  constructor
  · split
    · rfl
    · simp [look, hm]
  · split
    · rfl
    · simp [isThere, hm]

/-! ### Rows stay right -/
theorem rnd_lo (x : Int) : -1073741824 ≤ rnd x := by
  unfold rnd; have := Int.tmod_lt_of_pos (-(wrap64 x)) (show (0 : Int) < 1073741825 by decide); rw [Int.neg_tmod] at this; omega
theorem rnd_hi (x : Int) : rnd x ≤ 1073741824 := by
  unfold rnd; have := Int.tmod_lt_of_pos (wrap64 x) (show (0 : Int) < 1073741825 by decide); omega
def InR (x : Int) : Prop := -1073741824 ≤ x ∧ x ≤ 1073741824
theorem inR_zero : InR 0 := ⟨by decide, by decide⟩
theorem inR_rnd (x : Int) : InR (rnd x) := ⟨rnd_lo x, rnd_hi x⟩
theorem inR_set {r : Nat → Int} (h : ∀ i, InR (r i)) (a : Nat) {x : Int} (hx : InR x) : ∀ i, InR (setR r a x i) := fun i => by
  unfold setR; split
  · exact hx
  · exact h i
def InM (m : Made) : Prop := ∀ k n, m k = some (some n) → InR n
theorem inM_set {m : Made} (h : InM m) (k : ByteArray) {o : Option Int} (ho : ∀ n, o = some n → InR n) : InM (setM m k o) := fun j n e => by
  unfold setM at e; split at e
  · exact ho n (Option.some.inj e)
  · exact h j n e
theorem inR_look {v : ByteArray → Int} {m : Made} (hv : ∀ k, InR (v k)) (hm : InM m) (k : ByteArray) : InR (look v m k) := by
  unfold look; split
  · rename_i n e; exact hm k n e
  · exact inR_zero
  · exact hv k
theorem exec_inR {v : ByteArray → Int} (hv : ∀ k, InR (v k)) : ∀ (l : List Ins) (s : Nat) (r : Nat → Int) (m : Made), (∀ i ∈ l, InR i.n) → (∀ i, InR (r i)) → InM m → (∀ i, InR ((exec v l s r m).1 i)) ∧ InM (exec v l s r m).2.1
  | [], _, r, m, _, hr, hm => by rw [exec]; exact ⟨hr, hm⟩
  | i :: l, s + 1, r, m, hl, hr, hm => by
    rw [exec]; exact exec_inR hv l s r m (fun j hj => hl j (by simp [hj])) hr hm
  | i :: l, 0, r, m, hl, hr, hm => by
    have hl' : ∀ j ∈ l, InR j.n := fun j hj => hl j (by simp [hj])
    rw [exec]
    split
    · exact exec_inR hv l _ _ _ hl' (inR_set hr _ (inR_look hv hm _)) hm
    split
    · exact exec_inR hv l _ _ _ hl' (inR_set hr _ (hl i (by simp))) hm
    split
    · exact exec_inR hv l _ _ _ hl' (inR_set hr _ (inR_rnd _)) hm
    split
    · exact exec_inR hv l _ _ _ hl' (inR_set hr _ (inR_rnd _)) hm
    split
    · exact exec_inR hv l _ _ _ hl' (inR_set hr _ (inR_rnd _)) hm
    split
    · exact exec_inR hv l _ _ _ hl' hr (inM_set hm _ (fun n e => by cases e; exact hr _))
    split
    · exact exec_inR hv l _ _ _ hl' hr (inM_set hm _ (fun n e => by cases e))
    split
    · exact exec_inR hv l _ _ _ hl' hr hm
    split
    · exact ⟨hr, hm⟩
    · exact exec_inR hv l _ _ _ hl' hr hm
theorem num_inR {l : List Row} (h : Right l) (k : ByteArray) : InR (num k l) := by
  induction l with
  | nil => exact inR_zero
  | cons x l ih =>
    have hx : InR x.2 := ⟨h.lo x (by simp), h.hi x (by simp)⟩
    have ht : Right l := ⟨(srt_cons.1 h.srt).2, fun y hy => h.key y (by simp [hy]), fun y hy => h.lo y (by simp [hy]), fun y hy => h.hi y (by simp [hy])⟩
    have hn := ih ht
    unfold num
    repeat' split
    all_goals first | exact hx | exact hn | exact inR_zero
theorem right_nums {d : Deed3} (h : RightDD d) : ∀ i ∈ d.2.2, InR i.n := fun i hi => by
  obtain ⟨j, hj, rfl⟩ := List.getElem_of_mem hi
  have hc := h.c
  have := right_norm (by omega) (h.i j hj)
  simp only [List.getD, List.getElem?_eq_getElem hj, Option.getD_some] at this
  exact ⟨this.lo, this.hi⟩
theorem right_putOne {l : List Row} (h : Right l) {x : ByteArray × Option Int} (hk : keyB x.1 = true) (hn : ∀ n, x.2 = some n → InR n) : Right (putOne l x) := by
  unfold putOne
  split
  · rename_i n e; exact right_ins h hk (hn n e).1 (hn n e).2
  · exact right_del h
theorem right_foldl : ∀ (V : List (ByteArray × Option Int)) {l : List Row}, Right l → (∀ x ∈ V, keyB x.1 = true ∧ ∀ n, x.2 = some n → InR n) → Right (V.foldl putOne l)
  | [], _, h, _ => h
  | x :: V, l, h, hV => right_foldl V (right_putOne h (hV x (by simp)).1 (hV x (by simp)).2) (fun y hy => hV y (by simp [hy]))
theorem vers_mem {m : Made} {W : List ByteArray} {x : ByteArray × Option Int} (h : x ∈ vers m W) : x.1 ∈ W ∧ m x.1 = some x.2 := by
  unfold vers at h
  obtain ⟨k, hk, e⟩ := List.mem_filterMap.1 h
  cases e2 : m k with
  | none => rw [e2] at e; cases e
  | some o =>
    rw [e2] at e
    simp only [Option.map_some, Option.some.injEq] at e
    subst e
    exact ⟨hk, e2⟩
/-- Right rows are right behind a right deed. -/
theorem doD_right {l : List Row} {d : Deed3} (h : Right l) (hd : RightDD d) : Right (doD l d) := by
  cases hf : (exD l d).2.2 with
  | true => rw [doD_fail hf]; exact h
  | false =>
    unfold doD
    rw [if_neg (by rw [hf]; simp)]
    refine right_foldl _ h fun x hx => ?_
    obtain ⟨h1, h2⟩ := vers_mem hx
    refine ⟨wKeys_key hd.w h1, fun n e => ?_⟩
    rw [e] at h2
    exact (exec_inR (num_inR h) d.2.2 0 zeroR zeroM (right_nums hd) (fun _ => inR_zero) (fun k n e => by cases e)).2 x.1 n h2
theorem doD_length (l : List Row) (d : Deed3) : (doD l d).length ≤ l.length + d.2.1.length := by
  have one : ∀ (l : List Row) (x : ByteArray × Option Int), (putOne l x).length ≤ l.length + 1 := fun l x => by
    unfold putOne; split
    · exact ins_length _ _ _
    · have := del_length x.1 l; omega
  have key : ∀ (V : List (ByteArray × Option Int)) (l : List Row), (V.foldl putOne l).length ≤ l.length + V.length := by
    intro V
    induction V with
    | nil => intro l; simp
    | cons x V ih => intro l; have := ih (putOne l x); have := one l x; simp only [List.foldl_cons, List.length_cons]; omega
  unfold doD; split
  · omega
  · have h1 := key (vers (exD l d).2.1 d.2.1) l
    have h2 : (vers (exD l d).2.1 d.2.1).length ≤ d.2.1.length := List.length_filterMap_le _ _
    omega

/-! ### Who shares nothing may go first -/
theorem exec_same {v v' : ByteArray → Int} : ∀ (l : List Ins) (s : Nat) (r : Nat → Int) (m : Made), (∀ i ∈ l, i.kind = 1 → v i.key = v' i.key) → exec v l s r m = exec v' l s r m
  | [], _, _, _, _ => rfl
  | i :: l, s + 1, r, m, h => by
    rw [exec, exec]; exact exec_same l s r m (fun j hj => h j (by simp [hj]))
  | i :: l, 0, r, m, h => by
    have h' : ∀ j ∈ l, j.kind = 1 → v j.key = v' j.key := fun j hj => h j (by simp [hj])
    rw [exec, exec]
    split
    · rename_i hk
      have : look v m i.key = look v' m i.key := by
        unfold look; split
        · rfl
        · rfl
        · exact h i (by simp) hk
      rw [this]
      exact exec_same l _ _ _ h'
    repeat' split
    all_goals first | rfl | exact exec_same l _ _ _ h'
theorem right_loads {d : Deed3} (h : RightDD d) : ∀ i ∈ d.2.2, i.kind = 1 → i.key ∈ d.1 := fun i hi hk => by
  obtain ⟨j, hj, rfl⟩ := List.getElem_of_mem hi
  have := (right_instr (h.i j hj)).load
  simp only [List.getD, List.getElem?_eq_getElem hj, Option.getD_some] at this
  exact has_iff.1 (this hk)
/-- A deed that reads nothing that the other one writes ends as if that had not been. -/
theorem exD_else {l : List Row} {d e : Deed3} (hs : Srt l) (hd : RightDD d) (he : RightDD e) (h : ∀ k, k ∈ d.2.1 → k ∉ e.1) : exD (doD l d) e = exD l e := by
  unfold exD
  exact exec_same _ _ _ _ fun i hi hk => (doD_else hs hd (fun hw => h _ hw (right_loads he i hi hk))).1
theorem apart_rows {l : List Row} {d e : Deed3} (hs : Srt l) (hd : RightDD d) (he : RightDD e) (h1 : ∀ k, k ∈ d.2.1 → k ∉ e.2.1) (h2 : ∀ k, k ∈ d.2.1 → k ∉ e.1) (h3 : ∀ k, k ∈ e.2.1 → k ∉ d.1) : doD (doD l d) e = doD (doD l e) d := by
  have ed := exD_else hs hd he h2
  have de := exD_else hs he hd h3
  have sd := doD_srt hs hd
  have se := doD_srt hs he
  have miss : ∀ {l : List Row} {d : Deed3}, RightDD d → ∀ k, k ∉ d.2.1 → (exD l d).2.1 k = none := fun {l d} hd k hk => by
    cases e : (exD l d).2.1 k with
    | none => rfl
    | some o => exact absurd (exD_keys (l := l) hd k (by simp [e])) hk
  refine srt_ext (doD_srt sd he) (doD_srt se hd) (fun k => ?_) (fun k => ?_)
  · by_cases hk : k ∈ d.2.1
    · have hk' := h1 k hk
      rw [(doD_else sd he hk').2, doD_at hs hd, doD_at se hd, de]
      unfold isThere
      rw [(doD_else hs he hk').2]
    · rw [(doD_else se hd hk).2, doD_at sd he, doD_at hs he, ed]
      unfold isThere
      rw [(doD_else hs hd hk).2]
  · by_cases hk : k ∈ d.2.1
    · have hk' := h1 k hk
      rw [(doD_else sd he hk').1, doD_num hs hd, doD_num se hd, de]
      unfold look
      simp only [(doD_else hs he hk').1]
    · rw [(doD_else se hd hk).1, doD_num sd he, doD_num hs he, ed]
      unfold look
      simp only [(doD_else hs hd hk).1]
theorem apart_ends {l : List Row} {d e : Deed3} (hs : Srt l) (hd : RightDD d) (he : RightDD e) (h2 : ∀ k, k ∈ d.2.1 → k ∉ e.1) (h3 : ∀ k, k ∈ e.2.1 → k ∉ d.1) : endD (doD l d) e = endD l e ∧ endD (doD l e) d = endD l d := by
  unfold endD
  rw [exD_else hs hd he h2, exD_else hs he hd h3]
  exact ⟨rfl, rfl⟩
end Go.Proofs.YtfdliblikkpjiabDoor
