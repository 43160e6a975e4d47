/-
  Plain mathematics of one deed that counts up: its text, and what it comes to.
  The closed fact that the statements of chapter 4 ask first is so.
  Plain mathematics of what is done: an engine is told by what was planned and what is done; all is done at last, whichever goes first; going on with one changes no other one, nor what is made; who was ready is so still, or is the one.
  Plain mathematics of replicas: twice is once, in whatever order, and forgotten or not; and that all deeds are done at last.
  Plain mathematics of a deed that is done: what each key that it writes has then, as the program takes it from what Run made, or from what the key had.
  Plain mathematics of what is forgotten: it goes on the same, and what is done leaves one version each.
  Plain mathematics of what chapter 10 asks of replicas: what they are built of, in whatever order entries come, and that what is forgotten is not missed.
  What it means that a replica lies in memory: its engine, its number, and the entries that came too soon.
  Where among entries one of a number is first: slices.IndexFunc and slices.ContainsFunc over the program's closures.
-/
import Derived.Test.YtlhaeeenkgkdaaaGreatDoorOpenDeeds
import Derived.Test.YtlhaeeenkgkdaaaGreatDoorAround
import Derived.Test.YtlhaeeenkgkdaaaGreatDoorOpen
import Derived.Test.YtlhaeeenkgkdaaaGreatDoorRefParse
import Derived.Test.YtlhaeeenkgkdaaaGreatDoorEngSet
import Derived.Test.YtlhaeeenkgkdaaaGreatDoorPlanMath
import Derived.Test.YtlhaeeenkgkdaaaGreatDoorRefOldE
import Derived.Test.YtlhaeeenkgkdaaaGreatDoorOpenEnts
import Derived.Test.YtlhaeeenkgkdaaaGreatDoorDeedTurn
import Derived.Test.YtlhaeeenkgkdaaaGreatDoorRefNew
namespace Go.Proofs.YtlhaeeenkgkdaaaGreatDoor
open Go.RowKit

def oneA : ByteArray := ⟨#[97]⟩
def oneE : ByteArray := ⟨#[]⟩
def oneI : List Ins := [(1, 0, 0, 0, oneA), (2, 1, 0, 1, oneE), (3, 0, 1, 0, oneE), (6, 0, 0, 0, oneA)]
def oneD : Deed3 := ([oneA], [oneA], oneI)
def oneT : T := [114, 101, 97, 100, 115, 32, 97, 59, 32, 119, 114, 105, 116, 101, 115, 32, 97, 59, 32, 108, 111, 97, 100, 32, 114, 48, 32, 97, 59, 32, 99, 111, 110, 115, 116, 32, 114, 49, 32, 49, 59, 32, 97, 100, 100, 32, 114, 48, 32, 114, 49, 59, 32, 115, 116, 111, 114, 101, 32, 114, 48, 32, 97]
theorem one_right : wDeed [oneA] [oneA] oneI = 0 := by decide
theorem one_digits {d : Nat} (h : d < 10) : Lib.decDigits d = [UInt8.ofNat (48 + d)] := by rw [Lib.decDigits, dif_pos h]
theorem one_itoa0 : Lib.itoa 0 = [48] := by
 have := Lib.itoa_nonneg 0
 rw [one_digits (by decide)] at this
 exact this
theorem one_itoa1 : Lib.itoa 1 = [49] := by
 have := Lib.itoa_nonneg 1
 rw [one_digits (by decide)] at this
 exact this
theorem one_text : printT [oneA] [oneA] oneI = oneT := by
 unfold printT partsOf oneI
 have h1 : insWords (1, 0, 0, 0, oneA) = [word 1, [114, 48], [97]] := by
   show [word 1, reg 0, keyT oneA] = _
   unfold reg; rw [one_itoa0]; rfl
 have h2 : insWords (2, 1, 0, 1, oneE) = [word 2, [114, 49], [49]] := by
   show [word 2, reg 1, Lib.itoa 1] = _
   unfold reg; rw [one_itoa1]
 have h3 : insWords (3, 0, 1, 0, oneE) = [word 3, [114, 48], [114, 49]] := by
   show [word 3, reg 0, reg 1] = _
   unfold reg; rw [one_itoa0, one_itoa1]
 have h4 : insWords (6, 0, 0, 0, oneA) = [word 6, [114, 48], [97]] := by
   show [word 6, reg 0, keyT oneA] = _
   unfold reg; rw [one_itoa0]; rfl
 simp only [List.map_cons, List.map_nil]
 rw [h1, h2, h3, h4]
 rfl
theorem one_read : readT oneT = (0, [oneA], [oneA], oneI) := by rw [← one_text]; exact read_print one_right
theorem one_small : SmallT [oneA] := by
 intro x hx; simp at hx; subst hx; decide
theorem oneRight : RightDD oneD := right_deed one_right

end Go.Proofs.YtlhaeeenkgkdaaaGreatDoor

namespace Go.Proofs.YtlhaeeenkgkdaaaGreatDoor
open Go.RowKit

def ReadTold (w w' : World) (d : Deed3) (e : Ending) : Prop :=
 ∃ rb rn rc wb wn wc cb cn cc, e = .returned (.agg #[.slice rb rn rc, .slice wb wn wc, .slice cb cn cc]) ∧ DeedIn w' rb rn rc wb wn wc cb cn cc d.1 d.2.1 d.2.2 ∧ Below w.heap.size w w'

end Go.Proofs.YtlhaeeenkgkdaaaGreatDoor

namespace Go.Proofs.YtlhaeeenkgkdaaaGreatDoor
open Go.RowKit

end Go.Proofs.YtlhaeeenkgkdaaaGreatDoor

namespace Go.Proofs.YtlhaeeenkgkdaaaGreatDoor
open Go.RowKit

theorem had_pull : ∀ (f : Nat) (r : Rep) (e : Ent), hadR r e = true → hadR (pullR f r) e = true
 | 0, _, _, h => h
 | f + 1, r, e, h => by
   rw [pullR]
   split
   · exact h
   · rename_i x hx
     refine had_pull f _ e ?_
     unfold hadR at h ⊢
     simp only [Bool.or_eq_true, decide_eq_true_eq] at h ⊢
     rcases h with h | h
     · exact .inl (by omega)
     · obtain ⟨y, hy, he⟩ := List.any_eq_true.1 h
       have hye : y.1 = e.1 := by simpa [isNum] using he
       by_cases hn : e.1 = r.next
       · exact .inl (by omega)
       · refine .inr (List.any_eq_true.2 ⟨y, List.mem_filter.2 ⟨hy, ?_⟩, he⟩)
         have : y.1 ≠ r.next := by rw [hye]; exact hn
         simpa [isNum] using this
theorem come_had (r : Rep) (e : Ent) (h : (comeR r e).2 ≠ 5) : hadR (comeR r e).1 e = true := by
 unfold comeR at h ⊢
 split
 · rename_i h1; exact h1
 · rename_i h1
   rw [if_neg h1] at h
   split
   · rename_i h2
     rw [if_pos h2] at h
     split
     · rename_i h3
       rw [if_pos h3] at h
       exact absurd rfl h
     · unfold hadR
       simp [isNum]
   · rename_i h2
     refine had_pull _ _ _ ?_
     unfold hadR at h1 ⊢
     simp only [Bool.or_eq_true, decide_eq_true_eq, not_or] at h1 ⊢
     exact .inl (by omega)
theorem come_twice (r : Rep) (e : Ent) : ((comeR r e).2 = 5 → (comeR r e).1 = r) ∧ ((comeR r e).2 ≠ 5 → comeR (comeR r e).1 e = ((comeR r e).1, 11)) ∧ ((comeR r e).2 = 11 → (comeR r e).1 = r) := by
 refine ⟨fun h => ?_, fun h => ?_, fun h => ?_⟩
 · unfold comeR at h ⊢
   split
   · rfl
   · rename_i h1
     rw [if_neg h1] at h
     split
     · rename_i h2
       rw [if_pos h2] at h
       split
       · rfl
       · rename_i h3
         rw [if_neg h3] at h
         simp at h
     · rename_i h2
       rw [if_neg h2] at h
       simp at h
 · have := come_had r e h
   generalize (comeR r e).1 = x at *
   unfold comeR
   rw [if_pos this]
 · unfold comeR at h ⊢
   split
   · rfl
   · rename_i h1
     rw [if_neg h1] at h
     split
     · rename_i h2
       rw [if_pos h2] at h
       split
       · rfl
       · rename_i h3
         rw [if_neg h3] at h
         simp at h
     · rename_i h2
       rw [if_neg h2] at h
       simp at h
end Go.Proofs.YtlhaeeenkgkdaaaGreatDoor

namespace Go.Proofs.YtlhaeeenkgkdaaaGreatDoor
open Go.RowKit

theorem sees_bef {r0 : List Row} {D : List Deed3} {m : Nat} {dn : Nat → Bool} {b : ByteArray → Int} {e : Eng} (G : Good r0 D m dn b e) {p : Nat} (hp : m + p < D.length) (hn : needsE e p = []) {k : ByteArray} (hk : k ∈ keysD (e.deeds.getD p default)) :
   (before e.chains k (e.base + p)).made = true ∧ (before e.chains k (e.base + p)).has_ = isAt k (seesE e p) ∧ (before e.chains k (e.base + p)).n = num k (seesE e p) := by
 rw [G.deed] at hk
 have hm := (needs_nil G hp).1 hn k hk
 obtain ⟨e1, e2⟩ := (sees_is G hp hn).2 k hk
 obtain ⟨h1, h2⟩ := (G.seen (n := p) (by omega) k).yes hm
 rw [G.at_]
 exact ⟨hm, h1.trans e1.symm, h2.trans e2.symm⟩
def madeL (f : Bool) (m : Made) (W : List ByteArray) : List (ByteArray × Option Int) := if f = true then [] else vers m W
theorem keysOf_length (l : List (ByteArray × Option Int)) : (keysOf l).length = l.length := by simp [keysOf]
theorem keysOf_getD {l : List (ByteArray × Option Int)} {j : Nat} (h : j < l.length) : (keysOf l).getD j default = (l.getD j default).1 := by simp [keysOf, List.getD, h]
theorem made_some {R : List Row} {d : Deed3} {r : Nat → Int} {m : Made} {f : Bool} (hs : Srt R) (hd : RightDD d) (hx : exD R d = (r, m, f)) {j : Nat} (hj : j < (madeL f m d.2.1).length) {k : ByteArray} {o : Option Int} (hk : (madeL f m d.2.1).getD j default = (k, o)) : isAt k (doD R d) = o.isSome ∧ num k (doD R d) = o.getD 0 := by
 cases f with
 | true => exact absurd hj (Nat.not_lt_zero _)
 | false =>
   have hmem : (k, o) ∈ vers m d.2.1 := by
     rw [← hk]
     show _ ∈ vers m d.2.1
     have hj' : j < (vers m d.2.1).length := hj
     have e : (madeL false m d.2.1).getD j default = (vers m d.2.1)[j] := by simp [madeL, List.getD, hj']
     rw [e]
     exact List.getElem_mem hj'
   have hm : m k = some o := (vers_mem hmem).2
   rw [doD_at hs hd, doD_num hs hd, hx]
   simp only [Bool.false_eq_true, if_false]
   unfold isThere look
   rw [hm]
   cases o <;> exact ⟨rfl, rfl⟩
theorem made_none {R : List Row} {d : Deed3} {r : Nat → Int} {m : Made} {f : Bool} (hs : Srt R) (hd : RightDD d) (hx : exD R d = (r, m, f)) {k : ByteArray} (hw : k ∈ d.2.1) (hk : has (keysOf (madeL f m d.2.1)) k = false) : isAt k (doD R d) = isAt k R ∧ num k (doD R d) = num k R := by
 rw [doD_at hs hd, doD_num hs hd, hx]
 cases f with
 | true => exact ⟨rfl, rfl⟩
 | false =>
   simp only [Bool.false_eq_true, if_false]
   have hm : m k = none := by
     cases hm : m k with
     | none => rfl
     | some o =>
       have : k ∈ keysOf (madeL false m d.2.1) := by
         refine List.mem_map.2 ⟨(k, o), ?_, rfl⟩
         show (k, o) ∈ vers m d.2.1
         unfold vers
         rw [List.mem_filterMap]
         exact ⟨k, hw, by rw [hm]; rfl⟩
       rw [has_iff.2 this] at hk; cases hk
   unfold isThere look
   rw [hm]
   exact ⟨rfl, rfl⟩
theorem verCell_is (o : Option Int) : verCell o = [.int .i64 0, .bool true, .bool o.isSome, .int .i64 (o.getD 0)] := by cases o <;> rfl

def hindE (e : Eng) (at_ : Int) : Int :=
 if at_ < 0 ∨ (e.deeds.length : Int) ≤ at_ then 6
 else if e.state.getD at_.toNat 0 = 1 then 11
 else if needsE e at_.toNat ≠ [] then 10
 else 0
theorem Good.state_is {r0 : List Row} {D : List Deed3} {m : Nat} {dn : Nat → Bool} {b : ByteArray → Int} {e : Eng} (G : Good r0 D m dn b e) {p : Nat} (hp : m + p < D.length) : e.state.getD p 0 = if dn (m + p) = true then 1 else 0 := by
 rw [G.state]
 have h : p < D.length - m := by omega
 simp [List.getD, h]
theorem hind_ready {r0 : List Row} {D : List Deed3} {m : Nat} {dn : Nat → Bool} {b : ByteArray → Int} {e : Eng} (G : Good r0 D m dn b e) {p : Nat} (hp : p < e.deeds.length) : (decide (hindE e p = 0)) = (decide (e.state.getD p 0 = 0) && (needsE e p).isEmpty) := by
 have hpD : m + p < D.length := by rw [G.len] at hp; omega
 unfold hindE
 rw [if_neg (by omega), Int.toNat_natCast, G.state_is hpD]
 cases dn (m + p) <;> cases needsE e p <;> simp
theorem ready_lt {e : Eng} {p : Nat} (h : p ∈ readyE e) : p < e.deeds.length := List.mem_range.1 (List.mem_filter.1 h).1
theorem ready_needs {e : Eng} {p : Nat} (h : p ∈ readyE e) : needsE e p = [] := by
 have := (List.mem_filter.1 h).2
 simp at this
 exact this.2
theorem ready_of_hind {r0 : List Row} {D : List Deed3} {m : Nat} {dn : Nat → Bool} {b : ByteArray → Int} {e : Eng} (G : Good r0 D m dn b e) {p : Nat} (hp : p < e.deeds.length) (h : hindE e p = 0) : p ∈ readyE e := by
 unfold readyE
 refine List.mem_filter.2 ⟨List.mem_range.2 hp, ?_⟩
 rw [← hind_ready G hp, h]; rfl
def readyTo (e : Eng) (j : Nat) : List Nat := (List.range j).filter (fun p => decide (hindE e p = 0))
theorem readyTo_succ (e : Eng) (j : Nat) : readyTo e (j + 1) = readyTo e j ++ if hindE e j = 0 then [j] else [] := by
 unfold readyTo
 rw [List.range_succ, List.filter_append]
 congr 1
 simp only [List.filter_cons, List.filter_nil, decide_eq_true_eq]
theorem ready_to {r0 : List Row} {D : List Deed3} {m : Nat} {dn : Nat → Bool} {b : ByteArray → Int} {e : Eng} (G : Good r0 D m dn b e) : readyTo e e.deeds.length = readyE e := by
 unfold readyTo readyE
 refine List.filter_congr fun p hp => ?_
 exact hind_ready G (List.mem_range.1 hp)
theorem ready_at {r0 : List Row} {D : List Deed3} {m : Nat} {dn : Nat → Bool} {b : ByteArray → Int} {e : Eng} (G : Good r0 D m dn b e) {p : Nat} (h : p ∈ readyE e) : m + p < D.length ∧ dn (m + p) = false := by
 have h1 := ready_lt h
 have hpD : m + p < D.length := by rw [G.len] at h1; omega
 refine ⟨hpD, ?_⟩
 have h2 := (List.mem_filter.1 h).2
 simp only [Bool.and_eq_true, decide_eq_true_eq] at h2
 have h3 := h2.1
 rw [G.state_is hpD] at h3
 cases hd : dn (m + p) with
 | false => rfl
 | true => rw [hd] at h3; cases h3
end Go.Proofs.YtlhaeeenkgkdaaaGreatDoor

namespace Go.Proofs.YtlhaeeenkgkdaaaGreatDoor
open Go.RowKit

theorem mark_clear {r0 : List Row} {D : List Deed3} {m : Nat} {dn : Nat → Bool} {b : ByteArray → Int} {e : Eng} (G : Good r0 D m dn b e) : Good r0 D (m + markE e) dn (fun k => (seenV r0 D dn b k m (markE e)).by_) (clearE e (markE e)) := G.clear G.mark.le G.mark.done
def seenTo (e : Eng) (at_ : Int) : List Row × Int :=
 if at_ < 0 ∨ (e.deeds.length : Int) < at_ then ([], 6)
 else match rowsC e.chains (e.base + at_) with
   | none => ([], 10)
   | some r => (r, 0)
end Go.Proofs.YtlhaeeenkgkdaaaGreatDoor

namespace Go.Proofs.YtlhaeeenkgkdaaaGreatDoor
open Go.RowKit

theorem GoodR.with_eng {es : List Ent} {m m' : Nat} {dn dn' : Nat → Bool} {b b' : ByteArray → Int} {r : Rep} (h : GoodR es m dn b r) {x : Eng} (hx : Good [] (deedsOf es) m' dn' b' x) : GoodR es m' dn' b' ⟨x, r.next, r.early⟩ :=
 ⟨hx, h.next, h.num, h.right, h.four, h.later, h.one, h.early⟩
theorem GoodR.most {es : List Ent} {m : Nat} {dn : Nat → Bool} {b : ByteArray → Int} {r : Rep} (h : GoodR es m dn b r) : es.length ≤ 12 := by
 by_cases h0 : es.length = 0
 · omega
 · have h1 := h.num (es.length - 1) (by omega)
   have hm : es.getD (es.length - 1) default ∈ es := by
     have hl : es.length - 1 < es.length := by omega
     have : es.getD (es.length - 1) default = es[es.length - 1] := by simp [List.getD, hl]
     rw [this]; exact List.getElem_mem hl
   have h2 := (h.right _ hm).2.1
   omega
theorem deedsOf_few : ∀ {es : List Ent}, (∀ x ∈ es, RightEnt x) → (deedsOf es).length ≤ 6 * es.length
 | [], _ => Nat.le_refl _
 | x :: es, h => by
   have h1 := deedsOf_few (es := es) (fun y hy => h y (by simp [hy]))
   have h2 := (h x (by simp)).2.2.1
   show (x.2 ++ deedsOf es).length ≤ 6 * (es.length + 1)
   rw [List.length_append]
   omega
theorem GoodR.few {es : List Ent} {m : Nat} {dn : Nat → Bool} {b : ByteArray → Int} {r : Rep} (h : GoodR es m dn b r) : (deedsOf es).length ≤ 72 := by
 have h1 := h.most
 have h2 := deedsOf_few h.right
 omega

end Go.Proofs.YtlhaeeenkgkdaaaGreatDoor

namespace Go.Proofs.YtlhaeeenkgkdaaaGreatDoor
open Go.RowKit

abbrev repA (cb : Option Addr) (cn cc : Nat) (db : Option Addr) (dn dc : Nat) (sb : Option Addr) (sn sc : Nat) (eb : Option Addr) (en ec : Nat) (base next : Int) (ab : Option Addr) (an ac : Nat) : Array Value :=
 #[.slice cb cn cc, .slice db dn dc, .slice sb sn sc, .slice eb en ec, .int .i64 base, .int .i64 next, .slice ab an ac]
theorem rep_alien {w : World} {b : Nat} {t : TypeId} {cb db sb eb : Option Addr} {cn cc dn dc sn sc en ec : Nat} {base next : Int} {ab : Option Addr} {an ac : Nat}
   (h : Box w b (repA cb cn cc db dn dc sb sn sc eb en ec base next ab an ac) t) : Alien w b := by
 have key : ∀ o v, w.cell? ⟨b, o, none⟩ = some v → (∃ x y z, v = .slice x y z) ∨ ∃ n, v = .int .i64 n := fun o v hv => by
   unfold Box at h
   simp only [World.cell?, h, Option.isSome_none, Bool.false_eq_true, if_false] at hv
   have hm := List.mem_of_getElem? (l := (repA cb cn cc db dn dc sb sn sc eb en ec base next ab an ac).toList) (i := o) (by simpa using hv)
   simp at hm
   rcases hm with rfl | rfl | rfl | rfl | rfl | rfl | rfl
   · exact .inl ⟨_, _, _, rfl⟩
   · exact .inl ⟨_, _, _, rfl⟩
   · exact .inl ⟨_, _, _, rfl⟩
   · exact .inl ⟨_, _, _, rfl⟩
   · exact .inr ⟨_, rfl⟩
   · exact .inr ⟨_, rfl⟩
   · exact .inl ⟨_, _, _, rfl⟩
 refine ⟨fun o s e => ?_, fun o p q e => ?_⟩
 · rcases key o _ e with ⟨_, _, _, h⟩ | ⟨_, h⟩ <;> cases h
 · rcases key o _ e with ⟨_, _, _, h⟩ | ⟨_, h⟩ <;> cases h
structure RepLies (w : World) (cb : Option Addr) (cn cc : Nat) (db : Option Addr) (dn dc : Nat) (sb : Option Addr) (sn sc : Nat) (eb : Option Addr) (en ec : Nat) (ab : Option Addr) (an ac : Nat) (r : Rep) : Prop where
 eng : EngLies w cb cn cc db dn dc sb sn sc eb en ec r.eng
 early : EntsIn w ab an ac r.early
theorem RepLies.below {w w' : World} {cb db sb eb ab : Option Addr} {cn cc dn dc sn sc en ec an ac : Nat} {r : Rep} (h : RepLies w cb cn cc db dn dc sb sn sc eb en ec ab an ac r) (hb : Below w.heap.size w w') :
   RepLies w' cb cn cc db dn dc sb sn sc eb en ec ab an ac r := ⟨h.eng.below hb, h.early.below hb⟩
def RepIn (w : World) (v : Value) (r : Rep) : Prop := ∃ cb cn cc db dn dc sb sn sc eb en ec ab an ac, v = .agg (repA cb cn cc db dn dc sb sn sc eb en ec r.eng.base r.next ab an ac) ∧ RepLies w cb cn cc db dn dc sb sn sc eb en ec ab an ac r
theorem RepIn.below {w w' : World} {v : Value} {r : Rep} (h : RepIn w v r) (hb : Below w.heap.size w w') : RepIn w' v r := by
 obtain ⟨cb, cn, cc, db, dn, dc, sb, sn, sc, eb, en, ec, ab, an, ac, rfl, hl⟩ := h
 exact ⟨cb, cn, cc, db, dn, dc, sb, sn, sc, eb, en, ec, ab, an, ac, rfl, hl.below hb⟩
end Go.Proofs.YtlhaeeenkgkdaaaGreatDoor

namespace Go.Proofs.YtlhaeeenkgkdaaaGreatDoor
open Go.RowKit

theorem numClo_in : Entered 73 := fun _ _ => by kernel_rfl
theorem numClo_calls (m nx : Int) (qb : Option Addr) (qn qc : Nat) (fb : Nat) (w : World) (hf : w.cell? ⟨fb, 0, none⟩ = some (.int .i64 nx)) :
   Calls Tryz.prog 73 #[.agg #[.int .i64 m, .slice qb qn qc], .pointer (some ⟨fb, 0, none⟩)] w fun e w' => e = .returned (.bool (m == nx)) ∧ Below w.heap.size w w' := by
 have hfl : fb < w.heap.size := by simpa using World.block_lt_of_cell? _ _ hf
 have HG := hid (grew w (.cells #[.int .i64 m, .slice qb qn qc] 26))
 have x0 := box_cell w #[.int .i64 m, .slice qb qn qc] 26 0 _ rfl
 have f0 := kept_cell HG.out hf
 go_enter Tryz.func73, Tryz.ntmps73
 go_wp2
 go_ret
 exact ⟨rfl, HG.out⟩
def NumFn (w : World) (nx : Int) (v : Value) : Prop := ∃ fb, v = .func (.func 73) #[] #[.pointer (some ⟨fb, 0, none⟩)] ∧ w.cell? ⟨fb, 0, none⟩ = some (.int .i64 nx)
theorem numbered_calls (nx : Int) (w : World) :
   Calls Tryz.prog 49 #[.int .i64 nx] w fun e w' => ∃ v, e = .returned v ∧ NumFn w' nx v ∧ Below w.heap.size w w' := by
 have HG := hid (grew w (.cells #[.int .i64 nx] 3))
 have HB := hid (Box.new w #[.int .i64 nx] 3)
 go_enter Tryz.func49, Tryz.ntmps49
 go_wp2
 go_ret
 exact ⟨_, rfl, ⟨_, rfl, HB.out.cell 0 _ rfl⟩, HG.out⟩
def FoundAt (L : List Ent) (nx k : Int) : Prop := (k = -1 ∧ ∀ j, j < L.length → (L.getD j default).1 ≠ nx) ∨ ∃ j : Nat, j < L.length ∧ k = j ∧ (L.getD j default).1 = nx

set_option maxHeartbeats 2000000 in
set_option maxRecDepth 100000 in
theorem indexF_calls (L : List Ent) (base : Option Addr) (n c : Nat) (nx : Int) (fv : Value) (w : World) (ha : EntsIn w base n c L) (hf : NumFn w nx fv) :
   Calls Tryz.prog 51 #[.slice base n c, fv] w fun e w' => (∃ k, e = .returned (.int .i64 k) ∧ FoundAt L nx k) ∧ Below w.heap.size w w' := by
 obtain ⟨fb, rfl, hf⟩ := hf
 have HN := hid ha.len
 have hm := Nat.le_trans ha.hdr.le ha.hdr.max
 unfold maxLen at hm
 have HA := hid ha
 have HF := hid hf
 have PC := hid (fun m qb qn qc W h => numClo_calls m nx qb qn qc fb W h)
 obtain ⟨F, hFe⟩ : ∃ F, 73 = F := ⟨_, rfl⟩
 have hcf : Entered F := by rw [← hFe]; exact numClo_in
 rw [hFe] at PC ⊢
 unfold Entered at hcf
 clear ha hf hFe
 go_enter Tryz.func51, Tryz.ntmps51
 go_wp2
 go_loopw [8] (fun i wr => ∃ j : Nat, j ≤ n ∧ i = .int .i64 j ∧ Hid (∀ t, t < j → (L.getD t default).1 ≠ nx) ∧ Hid (Below w.heap.size w wr)) (fun i _ => n - (intOf i).toNat)
 case atStart => exact ⟨0, Nat.zero_le _, rfl, fun t h => absurd h (Nat.not_lt_zero _), Below.refl _ _⟩
 case round =>
   obtain ⟨j, hj, rfl, HH, HBR⟩ := hrel
   by_cases hlt : j < n
   · have hjl : j < L.length := by rw [← HN.out]; exact hlt
     have HJL := hid hjl
     have hi : (j : Int) < (n : Int) := by omega
     rcases (HA.out.below HBR.out).run with h | ⟨b1, o1, rfl, hrun⟩
     · omega
     obtain ⟨pb, pn, pc, k0, k1, -⟩ := hrun j hlt
     have hb1 : b1 < wr.heap.size := by simpa using World.block_lt_of_cell? _ _ k0
     have HC := hid (PC.out (L.getD j default).1 pb pn pc wr (kept_cell HBR.out HF.out))
     obtain ⟨z, hz⟩ : ∃ z, (L.getD j default).1 = z := ⟨_, rfl⟩
     have HZ := hid hz
     rw [hz] at HC k0
     clear hrun hz
     go_wp2_with fail
     refine HC.out.mono ?_
     rintro e w2 ⟨rfl, hb2⟩
     have HB2 := hid (below_deep HBR.out hb2)
     clear hb2 HC
     by_cases hq : z = nx
     · have t : (z == nx) = true := by simpa using hq
       rw [t]
       have HE : Hid ((L.getD j default).1 = nx) := by show _ = _; rw [HZ.out, hq]
       clear hq t
       go_wp2
       go_ret
       exact ⟨⟨j, rfl, .inr ⟨j, HJL.out, rfl, HE.out⟩⟩, HB2.out⟩
     · have t : (z == nx) = false := by simpa using hq
       rw [t]
       have HE : Hid (∀ t, t < j + 1 → (L.getD t default).1 ≠ nx) := fun t ht => by
         by_cases e : t = j
         · subst e; rw [HZ.out]; exact hq
         · exact HH.out t (by omega)
       clear hq t
       go_wp2
       go_roundw
       case rel => exact ⟨j + 1, by omega, by go_num, HE, HB2⟩
       case measure => simp [intOf]; omega
   · obtain rfl : j = n := by omega
     go_wp2
     go_ret
     exact ⟨⟨-1, rfl, .inl ⟨rfl, fun t ht => HH.out t (by rw [HN.out]; exact ht)⟩⟩, HBR.out⟩

theorem found_any {L : List Ent} {nx k : Int} (h : FoundAt L nx k) : decide (0 ≤ k) = L.any (isNum nx) := by
 rcases h with ⟨rfl, h⟩ | ⟨j, hj, rfl, h⟩
 · have : L.any (isNum nx) = false := by
     rw [List.any_eq_false]
     intro x hx
     obtain ⟨i, hi, rfl⟩ := List.mem_iff_getElem.1 hx
     have := h i hi
     simp only [List.getD, List.getElem?_eq_getElem hi, Option.getD_some] at this
     simpa [isNum] using this
   rw [this]; rfl
 · have : L.any (isNum nx) = true := by
     rw [List.any_eq_true]
     refine ⟨L[j], List.getElem_mem hj, ?_⟩
     simp only [List.getD, List.getElem?_eq_getElem hj, Option.getD_some] at h
     simpa [isNum] using h
   rw [this]; simp
theorem contF_calls (L : List Ent) (base : Option Addr) (n c : Nat) (nx : Int) (fv : Value) (w : World) (ha : EntsIn w base n c L) (hf : NumFn w nx fv) :
   Calls Tryz.prog 48 #[.slice base n c, fv] w fun e w' => e = .returned (.bool (L.any (isNum nx))) ∧ Below w.heap.size w w' := by
 have PI := hid (indexF_calls L base n c nx fv w ha hf)
 clear ha hf
 go_enter Tryz.func48, Tryz.ntmps48
 go_wp2_with fail
 refine PI.out.mono ?_
 rintro e w1 ⟨⟨k, rfl, hk⟩, hb1⟩
 have HK := hid (found_any hk)
 have HB1 := hid hb1
 clear hk hb1 PI
 go_wp2
 go_ret
 exact ⟨by rw [← HK.out]; rfl, HB1.out⟩
end Go.Proofs.YtlhaeeenkgkdaaaGreatDoor
