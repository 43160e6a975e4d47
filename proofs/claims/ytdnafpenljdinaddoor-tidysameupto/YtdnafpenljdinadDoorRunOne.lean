/-
  Plain mathematics of one deed that counts up: its text, and what it comes to.
  The closed fact that the statements of chapter 4 ask first is so.
  Plain mathematics of the two deeds that chapter 6 asks of first: their texts, and what is planned of them.
  Plain mathematics of what is done: an engine is told by what was planned and what is done; all is done at last, whichever goes first; going on with one changes no other one, nor what is made; who was ready is so still, or is the one.
  Plain mathematics of the two deeds that chapter 7 asks of first: their texts, and what is done of them.
-/
import Derived.Test.YtdnafpenljdinadDoorOpenDeeds
import Derived.Test.YtdnafpenljdinadDoorTextBack
import Derived.Test.YtdnafpenljdinadDoorOpenDeed
import Derived.Test.YtdnafpenljdinadDoorRefParse
import Derived.Test.YtdnafpenljdinadDoorEngSet
import Derived.Test.YtdnafpenljdinadDoorInsert
import Derived.Test.YtdnafpenljdinadDoorEngFit
import Derived.Test.YtdnafpenljdinadDoorRefOldE
namespace Go.Proofs.YtdnafpenljdinadDoor
open Go.RowKit

def oneA : ByteArray := ⟨#[97]⟩
def oneE : ByteArray := ⟨#[]⟩
def oneI : List Ins := [(1, 0, 0, 0, oneA), (2, 1, 0, 1, oneE), (3, 0, 1, 0, oneE), (6, 0, 0, 0, oneA)]
def oneD : Deed3 := ([oneA], [oneA], oneI)
/-- reads a; writes a; load r0 a; const r1 1; add r0 r1; store r0 a -/
def oneT : T := [114, 101, 97, 100, 115, 32, 97, 59, 32, 119, 114, 105, 116, 101, 115, 32, 97, 59, 32, 108, 111, 97, 100, 32, 114, 48, 32, 97, 59, 32, 99, 111, 110, 115, 116, 32, 114, 49, 32, 49, 59, 32, 97, 100, 100, 32, 114, 48, 32, 114, 49, 59, 32, 115, 116, 111, 114, 101, 32, 114, 48, 32, 97]
theorem one_right : wDeed [oneA] [oneA] oneI = 0 := by decide
theorem one_digits {d : Nat} (h : d < 10) : Lib.decDigits d = [UInt8.ofNat (48 + d)] := by rw [Lib.decDigits, dif_pos h]
theorem one_itoa0 : Lib.itoa 0 = [48] := by
  have := Lib.itoa_nonneg 0
  rw [one_digits (by decide)] at this
  exact this
theorem one_itoa1 : Lib.itoa 1 = [49] := by
  have := Lib.itoa_nonneg 1
  rw [one_digits (by decide)] at this
  exact this
theorem one_text : printT [oneA] [oneA] oneI = oneT := by
  unfold printT partsOf oneI
  have h1 : insWords (1, 0, 0, 0, oneA) = [word 1, [114, 48], [97]] := by
    show [word 1, reg 0, keyT oneA] = _
    unfold reg; rw [one_itoa0]; rfl
  have h2 : insWords (2, 1, 0, 1, oneE) = [word 2, [114, 49], [49]] := by
    show [word 2, reg 1, Lib.itoa 1] = _
    unfold reg; rw [one_itoa1]
  have h3 : insWords (3, 0, 1, 0, oneE) = [word 3, [114, 48], [114, 49]] := by
    show [word 3, reg 0, reg 1] = _
    unfold reg; rw [one_itoa0, one_itoa1]
  have h4 : insWords (6, 0, 0, 0, oneA) = [word 6, [114, 48], [97]] := by
    show [word 6, reg 0, keyT oneA] = _
    unfold reg; rw [one_itoa0]; rfl
  simp only [List.map_cons, List.map_nil]
  rw [h1, h2, h3, h4]
  rfl
theorem one_read : readT oneT = (0, [oneA], [oneA], oneI) := by rw [← one_text]; exact read_print one_right
theorem one_small : SmallT [oneA] := by
  intro x hx; simp at hx; subst hx; decide
theorem oneRight : RightDD oneD := right_deed one_right

/-! ### What it comes to -/
theorem inc_ex (l : List Row) : exD l oneD = (setR (setR (setR zeroR 0 (num oneA l)) 1 1) 0 (rnd (num oneA l + 1)), setM zeroM oneA (some (rnd (num oneA l + 1))), false) := by
  show exec (fun k => num k l) oneI 0 zeroR zeroM = _
  generalize hn : num oneA l = n
  simp [oneI, exec, Ins.kind, Ins.a, Ins.b, Ins.n, Ins.key, look, zeroM, hn, setR]
theorem inc_do (l : List Row) : doD l oneD = ins oneA (rnd (num oneA l + 1)) l := by
  unfold doD
  rw [inc_ex]
  simp [oneD, vers, setM, putOne]
theorem inc_end (l : List Row) : (endD l oneD).1 = false ∧ (endD l oneD).2 0 = rnd (num oneA l + 1) := by
  unfold endD
  rw [inc_ex]
  exact ⟨rfl, by simp [setR]⟩
theorem one_num (n : Int) : num oneA [(oneA, n)] = n := by simp [num, less_irrefl]
theorem one_ins (n m : Int) : ins oneA m [(oneA, n)] = [(oneA, m)] := by simp [ins, less_irrefl]
theorem inc_none : doD [] oneD = [(oneA, 1)] := by
  rw [inc_do]
  show ins oneA (rnd (0 + 1)) [] = _
  rw [show rnd (0 + 1) = 1 from by decide +kernel]
  rfl
theorem inc_none_end : (endD [] oneD).2 0 = 1 := by
  rw [(inc_end []).2]
  show rnd (0 + 1) = 1
  decide +kernel
theorem inc_two : allD [(oneA, 1)] [oneD, oneD] = [(oneA, 3)] := by
  show doD (doD [(oneA, 1)] oneD) oneD = _
  rw [inc_do [(oneA, 1)], one_num, one_ins, inc_do, one_num, one_ins]
  rw [show rnd (rnd (1 + 1) + 1) = 3 from by decide +kernel]
end Go.Proofs.YtdnafpenljdinadDoor

namespace Go.Proofs.YtdnafpenljdinadDoor
open Go.RowKit

/-- How read ends, of a text that is a deed's. -/
def ReadTold (w w' : World) (d : Deed3) (e : Ending) : Prop :=
  ∃ rb rn rc wb wn wc cb cn cc, e = .returned (.agg #[.slice rb rn rc, .slice wb wn wc, .slice cb cn cc]) ∧ DeedIn w' rb rn rc wb wn wc cb cn cc d.1 d.2.1 d.2.2 ∧ Below w.heap.size w w'

/-- Two deeds in a slice that was just laid. -/
theorem deeds_two (w : World) (rb : Option Addr) (rn rc : Nat) (wb : Option Addr) (wn wc : Nat) (cb : Option Addr) (cn cc : Nat) (rb' : Option Addr) (rn' rc' : Nat) (wb' : Option Addr) (wn' wc' : Nat) (cb' : Option Addr) (cn' cc' : Nat) (d d' : Deed3)
    (h : DeedIn w rb rn rc wb wn wc cb cn cc d.1 d.2.1 d.2.2) (h' : DeedIn w rb' rn' rc' wb' wn' wc' cb' cn' cc' d'.1 d'.2.1 d'.2.2) (s : SmallT d.1 ∧ SmallT d.2.1) (s' : SmallT d'.1 ∧ SmallT d'.2.1) :
    DeedsIn (w.alloc (.cells #[.slice rb rn rc, .slice wb wn wc, .slice cb cn cc, .slice rb' rn' rc', .slice wb' wn' wc', .slice cb' cn' cc'] 51)) (some ⟨w.heap.size, 0, none⟩) 2 2 [d, d'] := by
  have hb := grew w (.cells #[.slice rb rn rc, .slice wb wn wc, .slice cb cn cc, .slice rb' rn' rc', .slice wb' wn' wc', .slice cb' cn' cc'] 51)
  refine ⟨rfl, ⟨Nat.le_refl _, by unfold maxLen; omega, fun h => by cases h⟩, .inr ⟨_, _, rfl, fun i hi => ?_⟩⟩
  have : i = 0 ∨ i = 1 := by omega
  rcases this with rfl | rfl
  · exact ⟨rb, rn, rc, wb, wn, wc, cb, cn, cc, box_cell w _ _ 0 _ rfl, box_cell w _ _ 1 _ rfl, box_cell w _ _ 2 _ rfl, h.below hb, s.1, s.2⟩
  · exact ⟨rb', rn', rc', wb', wn', wc', cb', cn', cc', box_cell w _ _ 3 _ rfl, box_cell w _ _ 4 _ rfl, box_cell w _ _ 5 _ rfl, h'.below hb, s'.1, s'.2⟩

end Go.Proofs.YtdnafpenljdinadDoor

namespace Go.Proofs.YtdnafpenljdinadDoor
open Go.RowKit

def oneB : ByteArray := ⟨#[98]⟩
def sixI : List Ins := [(2, 0, 0, 1, oneE), (6, 0, 0, 0, oneA)]
def sixD : Deed3 := ([], [oneA], sixI)
def six2I : List Ins := [(1, 0, 0, 0, oneA)]
def six2D : Deed3 := ([oneA, oneB], [oneB], six2I)
/-- reads; writes a; const r0 1; store r0 a -/
def sixT : T := [114, 101, 97, 100, 115, 59, 32, 119, 114, 105, 116, 101, 115, 32, 97, 59, 32, 99, 111, 110, 115, 116, 32, 114, 48, 32, 49, 59, 32, 115, 116, 111, 114, 101, 32, 114, 48, 32, 97]
/-- reads a b; writes b; load r0 a -/
def six2T : T := [114, 101, 97, 100, 115, 32, 97, 32, 98, 59, 32, 119, 114, 105, 116, 101, 115, 32, 98, 59, 32, 108, 111, 97, 100, 32, 114, 48, 32, 97]
theorem six_right : wDeed [] [oneA] sixI = 0 := by decide
theorem six2_right : wDeed [oneA, oneB] [oneB] six2I = 0 := by decide
theorem six_text : printT [] [oneA] sixI = sixT := by
  unfold printT partsOf sixI
  have h2 : insWords (2, 0, 0, 1, oneE) = [word 2, [114, 48], [49]] := by
    show [word 2, reg 0, Lib.itoa 1] = _
    unfold reg; rw [one_itoa0, one_itoa1]
  have h4 : insWords (6, 0, 0, 0, oneA) = [word 6, [114, 48], [97]] := by
    show [word 6, reg 0, keyT oneA] = _
    unfold reg; rw [one_itoa0]; rfl
  simp only [List.map_cons, List.map_nil]
  rw [h2, h4]
  rfl
theorem six2_text : printT [oneA, oneB] [oneB] six2I = six2T := by
  unfold printT partsOf six2I
  have h1 : insWords (1, 0, 0, 0, oneA) = [word 1, [114, 48], [97]] := by
    show [word 1, reg 0, keyT oneA] = _
    unfold reg; rw [one_itoa0]; rfl
  simp only [List.map_cons, List.map_nil]
  rw [h1]
  rfl
theorem six_read : readT sixT = (0, [], [oneA], sixI) := by rw [← six_text]; exact read_print six_right
theorem six2_read : readT six2T = (0, [oneA, oneB], [oneB], six2I) := by rw [← six2_text]; exact read_print six2_right
theorem six_small : SmallT sixD.1 ∧ SmallT sixD.2.1 := ⟨(fun x hx => by cases hx), one_small⟩
theorem six2_small : SmallT six2D.1 ∧ SmallT six2D.2.1 := by
  refine ⟨fun x hx => ?_, fun x hx => ?_⟩
  · simp [six2D] at hx; rcases hx with rfl | rfl <;> decide
  · simp [six2D] at hx; subst hx; decide
theorem sixRight : RightDD sixD := right_deed six_right
theorem six2Right : RightDD six2D := right_deed six2_right
theorem six_rights : RightDs [sixD, six2D] := fun d hd => by
  simp at hd
  rcases hd with rfl | rfl
  · exact sixRight
  · exact six2Right
def sixR : List Row := [(oneA, 1)]
theorem sixR_right : Right sixR := right_of rfl
def sixE : Eng := addAll (newE sixR) [sixD, six2D]
theorem six_wDs : wDs [sixD, six2D] = 0 := wDs_of six_rights
theorem sixE_deeds : sixE.deeds.length = 2 := rfl
theorem sixE_state : sixE.state.length = 2 := rfl
theorem sixE_chains : sixE.chains.length = 2 := by decide +kernel
theorem six_keys : (keysD six2D).length = 2 := by decide
theorem six_needs0 : needsE sixE 0 = [] := rfl
theorem six_needs1 : needsE sixE 1 = [0] := by decide +kernel
theorem six_good : Good sixR [sixD, six2D] 0 (fun _ => false) (fun _ => -1) sixE := (Good.new sixR_right).addAll six_rights
end Go.Proofs.YtdnafpenljdinadDoor

namespace Go.Proofs.YtdnafpenljdinadDoor
open Go.RowKit

/-! ### An engine is told by what was planned and what is done -/
theorem Good.uniq {r0 : List Row} {D : List Deed3} {m : Nat} {dn dn' : Nat → Bool} {b b' : ByteArray → Int} {e e' : Eng} (G : Good r0 D m dn b e) (G' : Good r0 D m dn' b' e') (hd : ∀ i, m ≤ i → i < D.length → dn i = dn' i) (hb : ∀ k, isAt k (seqR r0 D m) = true → b k = b' k) : e = e' := by
  have hi : ∀ i ∈ List.range' m (D.length - m), dn i = dn' i := fun i hi => by
    have := List.mem_range'_1.1 hi
    exact hd i this.1 (by omega)
  have h1 : e.chains = e'.chains := by
    refine chains_ext G.srt G'.srt G.some_ G'.some_ (fun k => ?_)
    rw [G.vs, G'.vs]
    congr 1
    · unfold oldV
      split
      · rename_i h; rw [hb k h]
      · rfl
    · unfold newsV
      refine List.map_congr_left fun i h => ?_
      unfold verI
      rw [hi i (List.mem_filter.1 h).1]
  have h2 : e.deeds = e'.deeds := by rw [G.deeds, G'.deeds]
  have h3 : e.state = e'.state := by
    rw [G.state, G'.state]
    exact List.map_congr_left fun i h => by rw [hi i h]
  have h4 : e.ends = e'.ends := by
    rw [G.ends, G'.ends]
    exact List.map_congr_left fun i h => by rw [hi i h]
  have h5 : e.base = e'.base := by rw [G.base, G'.base]
  cases e; cases e'
  simp only at h1 h2 h3 h4 h5
  subst h1; subst h2; subst h3; subst h4; subst h5
  rfl

/-! ### How many wait -/
def waitN (dn : Nat → Bool) (m n : Nat) : Nat := ((List.range' m n).filter (fun i => !dn i)).length
theorem filter_less {α : Type} {f g : α → Bool} : ∀ (l : List α), (∀ x ∈ l, g x = true → f x = true) → (l.filter g).length ≤ (l.filter f).length
  | [], _ => Nat.le_refl _
  | x :: l, h => by
    have ih := filter_less l (fun y hy => h y (by simp [hy]))
    rw [List.filter_cons, List.filter_cons]
    cases hg : g x with
    | true => rw [h x (by simp) hg]; simp only [if_true, List.length_cons]; omega
    | false =>
      simp only [Bool.false_eq_true, if_false]
      split
      · simp only [List.length_cons]; omega
      · exact ih
theorem filter_fewer {α : Type} {f g : α → Bool} : ∀ (l : List α), (∀ x ∈ l, g x = true → f x = true) → (∃ x ∈ l, f x = true ∧ g x = false) → (l.filter g).length < (l.filter f).length
  | [], _, h => by obtain ⟨_, h, _⟩ := h; cases h
  | x :: l, h, hx => by
    have hl : ∀ y ∈ l, g y = true → f y = true := fun y hy => h y (by simp [hy])
    have le := filter_less l hl
    rw [List.filter_cons, List.filter_cons]
    obtain ⟨y, hy, h1, h2⟩ := hx
    rcases List.mem_cons.1 hy with rfl | hy
    · rw [h1, h2]
      simp only [Bool.false_eq_true, if_false, if_true, List.length_cons]
      omega
    · have ih := filter_fewer l hl ⟨y, hy, h1, h2⟩
      cases hg : g x with
      | true => rw [h x (by simp) hg]; simp only [if_true, List.length_cons]; omega
      | false =>
        simp only [Bool.false_eq_true, if_false]
        split
        · simp only [List.length_cons]; omega
        · exact ih
theorem wait_go {dn : Nat → Bool} {m n p : Nat} (hp : p < n) (hw : dn (m + p) = false) : waitN (doneNow dn (m + p)) m n < waitN dn m n := by
  unfold waitN
  refine filter_fewer _ (fun i _ hi => ?_) ⟨m + p, List.mem_range'_1.2 ⟨by omega, by omega⟩, by rw [hw]; rfl, by simp [doneNow]⟩
  unfold doneNow at hi
  split at hi
  · cases hi
  · exact hi
/-- The first one that is ready, and so on. -/
def runE : Nat → Eng → Eng
  | 0, e => e
  | f + 1, e => match readyE e with
    | [] => e
    | p :: _ => runE f (goE e p)
theorem run_good : ∀ (f : Nat) {r0 : List Row} {D : List Deed3} {m : Nat} {dn : Nat → Bool} {b : ByteArray → Int} {e : Eng}, Good r0 D m dn b e → waitN dn m (D.length - m) ≤ f → ∃ dn', Good r0 D m dn' b (runE f e) ∧ ∀ i, m ≤ i → i < D.length → dn' i = true
  | 0, r0, D, m, dn, b, e, G, hf => by
    refine ⟨dn, G, fun i h1 h2 => ?_⟩
    cases hd : dn i with
    | true => rfl
    | false =>
      have : 0 < waitN dn m (D.length - m) := List.length_pos_of_mem (a := i) (List.mem_filter.2 ⟨List.mem_range'_1.2 ⟨h1, by omega⟩, by rw [hd]; rfl⟩)
      omega
  | f + 1, r0, D, m, dn, b, e, G, hf => by
    rw [runE]
    cases hr : readyE e with
    | nil => exact ⟨dn, G, none_ready G hr⟩
    | cons p l =>
      obtain ⟨h1, h2, h3⟩ := (ready_mem G (p := p)).1 (by rw [hr]; simp)
      have := wait_go (dn := dn) (m := m) (n := D.length - m) (p := p) (by omega) h2
      exact run_good f (G.go h1 h3) (by omega)

/-! ### Going on with one -/
theorem bef_of_mem : ∀ {l : List Ver} {v : Ver} (o : Ver), Rise l → v ∈ l → befV (v.by_ + 1) l o = v
  | [], _, _, _, h => by cases h
  | u :: l, v, o, hr, h => by
    obtain ⟨h1, h2⟩ := List.pairwise_cons.1 hr
    rcases List.mem_cons.1 h with rfl | h
    · rw [befV, if_pos (by omega)]
      exact befV_high _ (fun x hx => by have := h1 x hx; omega)
    · rw [befV]
      exact bef_of_mem _ h2 h
theorem go_vs {r0 : List Row} {D : List Deed3} {m : Nat} {dn : Nat → Bool} {b : ByteArray → Int} {e : Eng} (G : Good r0 D m dn b e) {p : Nat} (hp : m + p < D.length) (hn : needsE e p = []) {k : ByteArray} {v : Ver} (hv : v ∈ vsOf k e.chains) (hm : v.made = true) : v ∈ vsOf k (goE e p).chains := by
  rw [(G.go hp hn).vs k]
  rw [G.vs k] at hv
  rcases List.mem_append.1 hv with h | h
  · exact List.mem_append.2 (.inl h)
  · refine List.mem_append.2 (.inr ?_)
    unfold newsV at h ⊢
    obtain ⟨i, hi, rfl⟩ := List.mem_map.1 h
    refine List.mem_map.2 ⟨i, hi, ?_⟩
    unfold verI at hm ⊢
    cases hd : dn i with
    | false => rw [hd] at hm; cases hm
    | true =>
      have : doneNow dn (m + p) i = true := by unfold doneNow; split <;> simp_all
      rw [this]
/-- What is made stays what it is. -/
theorem more_made {r0 : List Row} {D : List Deed3} {m : Nat} {dn : Nat → Bool} {b : ByteArray → Int} {e : Eng} (G : Good r0 D m dn b e) {p : Nat} (hp : m + p < D.length) (hn : needsE e p = []) {c : Chn} (hc : c ∈ e.chains) {v : Ver} (hv : v ∈ c.2) (hm : v.made = true) : before (goE e p).chains c.1 (v.by_ + 1) = v := by
  unfold before
  refine bef_of_mem _ ((G.go hp hn).rise c.1) (go_vs G hp hn ?_ hm)
  rw [vsOf_own G.srt hc]; exact hv
/-- Who needs nobody needs nobody when one more is done. -/
theorem needs_still {r0 : List Row} {D : List Deed3} {m : Nat} {dn dn' : Nat → Bool} {b b' : ByteArray → Int} {e x : Eng} (G : Good r0 D m dn b e) (X : Good r0 D m dn' b' x) (hd : ∀ i, dn i = true → dn' i = true) {q : Nat} (hq : m + q < D.length) (hn : needsE e q = []) : needsE x q = [] := by
  refine (needs_nil X hq).2 fun k hk => ?_
  have h1 := (needs_nil G hq).1 hn k hk
  have e1 := seen_of G (n := q) (by omega) k
  have e2 := seen_of X (n := q) (by omega) k
  rw [e1] at h1
  rw [e2]
  unfold seenV at h1 ⊢
  have hl : ∀ l : List Nat, ∀ o o' : Ver, (o.made = true → o'.made = true) → ((l.map (verI r0 D dn k)).getLastD o).made = true → ((l.map (verI r0 D dn' k)).getLastD o').made = true := by
    intro l
    induction l with
    | nil => intro o o' ho h; exact ho h
    | cons i l ih =>
      intro o o' _ h
      rw [List.map_cons, List.getLastD_cons] at h ⊢
      refine ih _ _ (fun hv => ?_) h
      unfold verI at hv ⊢
      cases hdi : dn i with
      | false => rw [hdi] at hv; cases hv
      | true => rw [hd i hdi]; rfl
  unfold newsV at h1 ⊢
  refine hl _ _ _ (fun _ => ?_) h1
  unfold oldV
  split <;> rfl
theorem ready_still {r0 : List Row} {D : List Deed3} {m : Nat} {dn : Nat → Bool} {b : ByteArray → Int} {e : Eng} (G : Good r0 D m dn b e) {p q : Nat} (hp : p ∈ readyE e) (hq : q ∈ readyE e) : q ∈ readyE (goE e p) ↔ q ≠ p := by
  obtain ⟨p1, p2, p3⟩ := (ready_mem G).1 hp
  obtain ⟨q1, q2, q3⟩ := (ready_mem G).1 hq
  have X := G.go p1 p3
  rw [ready_mem X]
  constructor
  · rintro ⟨_, h, _⟩ rfl
    simp [doneNow] at h
  · intro h
    refine ⟨q1, ?_, needs_still G X (fun i hi => by unfold doneNow; split <;> simp_all) q1 q3⟩
    unfold doneNow
    rw [if_neg (by omega)]; exact q2
theorem go_state {e : Eng} {p q : Nat} (h : q ≠ p) : (goE e p).state.getD q 0 = e.state.getD q 0 := by
  unfold goE
  simp [List.getD, Ne.symm h]
theorem go_ends {e : Eng} {p q : Nat} (h : q ≠ p) : (goE e p).ends.getD q noE = e.ends.getD q noE := by
  unfold goE
  simp [List.getD, Ne.symm h]

/-! ### Behind all deeds -/
theorem ends_seq (r0 : List Row) (D : List Deed3) : (List.range' 0 D.length).map (fun i => endD (seqR r0 D i) (D.getD i default)) = endsD r0 D := by
  have h : ∀ n, n ≤ D.length → (List.range' 0 n).map (fun i => endD (seqR r0 D i) (D.getD i default)) = endsD r0 (D.take n) := by
    intro n
    induction n with
    | zero => intro _; rfl
    | succ n ih =>
      intro hn
      have hn' : n < D.length := hn
      rw [take_snoc_getD hn', endsD_snoc, ← ih (Nat.le_of_lt hn'), List.range'_concat, List.map_append]
      congr 1
      simp [seqR]
  rw [h _ (Nat.le_refl _), List.take_length]
/-- When all is done: all are told so, each ended as it does one by one, and keys have ahead of each what they have then. -/
structure AllDone (r0 : List Row) (D : List Deed3) (x : Eng) : Prop where
  len : x.state.length = D.length
  state : ∀ s ∈ x.state, s = 1
  ends : x.ends = endsD r0 D
  rows : ∀ n, n ≤ D.length → rowsC x.chains n = some (allD r0 (D.take n))
theorem Good.all {r0 : List Row} {D : List Deed3} {dn : Nat → Bool} {b : ByteArray → Int} {x : Eng} (G : Good r0 D 0 dn b x) (h : ∀ i, i < D.length → dn i = true) : AllDone r0 D x := by
  refine ⟨by rw [G.state]; simp, fun s hs => ?_, ?_, fun n hn => ?_⟩
  · rw [G.state] at hs
    obtain ⟨i, hi, rfl⟩ := List.mem_map.1 hs
    rw [if_pos (h i (by have := (List.mem_range'_1.1 hi).2; omega))]
  · rw [G.ends, ← ends_seq r0 D]
    refine List.map_congr_left fun i hi => ?_
    rw [if_pos (h i (by have := (List.mem_range'_1.1 hi).2; omega))]
  · have := G.sees (n := n) (by omega) (fun i _ hi => h i (by omega))
    rw [G.base] at this
    simpa [seqR] using this
end Go.Proofs.YtdnafpenljdinadDoor

namespace Go.Proofs.YtdnafpenljdinadDoor
open Go.RowKit

def sevI : List Ins := [(2, 0, 0, 4, oneE), (6, 0, 0, 0, oneA)]
def sevD : Deed3 := ([], [oneA], sevI)
def sev2I : List Ins := [(1, 1, 0, 0, oneA)]
def sev2D : Deed3 := ([oneA], [], sev2I)
/-- reads; writes a; const r0 4; store r0 a -/
def sevT : T := [114, 101, 97, 100, 115, 59, 32, 119, 114, 105, 116, 101, 115, 32, 97, 59, 32, 99, 111, 110, 115, 116, 32, 114, 48, 32, 52, 59, 32, 115, 116, 111, 114, 101, 32, 114, 48, 32, 97]
/-- reads a; writes; load r1 a -/
def sev2T : T := [114, 101, 97, 100, 115, 32, 97, 59, 32, 119, 114, 105, 116, 101, 115, 59, 32, 108, 111, 97, 100, 32, 114, 49, 32, 97]
theorem sev_right : wDeed [] [oneA] sevI = 0 := by decide
theorem sev2_right : wDeed [oneA] [] sev2I = 0 := by decide
theorem one_itoa4 : Lib.itoa 4 = [52] := by
  have := Lib.itoa_nonneg 4
  rw [one_digits (by decide)] at this
  exact this
theorem sev_text : printT [] [oneA] sevI = sevT := by
  unfold printT partsOf sevI
  have h2 : insWords (2, 0, 0, 4, oneE) = [word 2, [114, 48], [52]] := by
    show [word 2, reg 0, Lib.itoa 4] = _
    unfold reg; rw [one_itoa0, one_itoa4]
  have h4 : insWords (6, 0, 0, 0, oneA) = [word 6, [114, 48], [97]] := by
    show [word 6, reg 0, keyT oneA] = _
    unfold reg; rw [one_itoa0]; rfl
  simp only [List.map_cons, List.map_nil]
  rw [h2, h4]
  rfl
theorem sev2_text : printT [oneA] [] sev2I = sev2T := by
  unfold printT partsOf sev2I
  have h1 : insWords (1, 1, 0, 0, oneA) = [word 1, [114, 49], [97]] := by
    show [word 1, reg 1, keyT oneA] = _
    unfold reg; rw [one_itoa1]; rfl
  simp only [List.map_cons, List.map_nil]
  rw [h1]
  rfl
theorem sev_read : readT sevT = (0, [], [oneA], sevI) := by rw [← sev_text]; exact read_print sev_right
theorem sev2_read : readT sev2T = (0, [oneA], [], sev2I) := by rw [← sev2_text]; exact read_print sev2_right
theorem sev_small : SmallT sevD.1 ∧ SmallT sevD.2.1 := ⟨(fun x hx => by cases hx), one_small⟩
theorem sev2_small : SmallT sev2D.1 ∧ SmallT sev2D.2.1 := ⟨one_small, (fun x hx => by cases hx)⟩
theorem sevRight : RightDD sevD := right_deed sev_right
theorem sev2Right : RightDD sev2D := right_deed sev2_right
theorem sev_rights : RightDs [sevD, sev2D] := fun d hd => by
  simp at hd
  rcases hd with rfl | rfl
  · exact sevRight
  · exact sev2Right
theorem nil_right : Right [] := right_of rfl
def sevE : Eng := addAll (newE []) [sevD, sev2D]
theorem sev_wDs : wDs [sevD, sev2D] = 0 := wDs_of sev_rights
theorem sevE_deeds : sevE.deeds.length = 2 := rfl
theorem sevE_state : sevE.state = [0, 0] := rfl
theorem sev_needs0 : needsE sevE 0 = [] := rfl
theorem sev_needs1 : needsE sevE 1 = [0] := by decide +kernel
theorem sev_ready : readyE sevE = [0] := by decide +kernel
theorem sev_good : Good [] [sevD, sev2D] 0 (fun _ => false) (fun _ => -1) sevE := (Good.new nil_right).addAll sev_rights
theorem sev_goodX : Good [] [sevD, sev2D] 0 (doneNow (fun _ => false) (0 + 0)) (fun _ => -1) (goE sevE 0) := sev_good.go (p := 0) (by decide) sev_needs0
theorem sev_readyX : readyE (goE sevE 0) = [1] := by decide +kernel
theorem sev_end : (endD (allD [] [sevD]) sev2D).2 1 = 4 := by decide +kernel
/-- When both are done the second one has seen what the first one made, and none is ready. -/
theorem sev_done {dn : Nat → Bool} {b : ByteArray → Int} {y : Eng} (G : Good [] [sevD, sev2D] 0 dn b y) (h : ∀ i, i < 2 → dn i = true) : (y.ends.getD 1 noE).2 1 = 4 ∧ readyE y = [] ∧ y.ends.length = 2 := by
  have ha := G.all (fun i hi => h i hi)
  refine ⟨?_, ?_, ?_⟩
  · rw [ha.ends]; exact sev_end
  · cases hr : readyE y with
    | nil => rfl
    | cons p l =>
      obtain ⟨h1, h2, _⟩ := (ready_mem G (p := p)).1 (by rw [hr]; simp)
      rw [h _ h1] at h2; cases h2
  · rw [ha.ends]; rfl
end Go.Proofs.YtdnafpenljdinadDoor
