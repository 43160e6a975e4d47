/-
  sort.Search over whatever closure, of what is first false and then true.
  find, below, lastBelow and ownVersions of the program: the place of a key in chains that rise, how many versions are ahead of a deed, the last one of them, and a copy of versions.
  Own of the program: a copy of chains, that shares no memory with them.
  The document's own Keys of a deed, walked.
  Plain mathematics of engines: what each engine is, that is made of rows by deeds more, deeds done, and what is old forgotten.
-/
import Derived.Test.YthmkgfdglkdjmadGreatDoorDeedTurn
import Derived.WalkSpells
import Derived.WalkLawsBesides
import Derived.Below
import Derived.LoopTactic
import Derived.Outline
import Derived.Test.YthmkgfdglkdjmadGreatDoorConcat
import Derived.Test.YthmkgfdglkdjmadGreatDoorDeedEq
import Derived.Test.YthmkgfdglkdjmadGreatDoorSpots
import Derived.Test.YthmkgfdglkdjmadGreatDoorNamedKeep
import Derived.Deep.RegionHeld3
import Derived.Test.YthmkgfdglkdjmadGreatDoorEngIn
namespace Go.Proofs.YthmkgfdglkdjmadGreatDoor
open Go.RowKit

end Go.Proofs.YthmkgfdglkdjmadGreatDoor

namespace Go.Proofs.YthmkgfdglkdjmadGreatDoor
open Go.RowKit

/-! ### A version in a block of its own -/
structure Four (w : World) (b : Nat) (y : Int) (m h : Bool) (x : Int) : Prop where
  c0 : w.cell? ⟨b, 0, none⟩ = some (.int .i64 y)
  c1 : w.cell? ⟨b, 1, none⟩ = some (.bool m)
  c2 : w.cell? ⟨b, 2, none⟩ = some (.bool h)
  c3 : w.cell? ⟨b, 3, none⟩ = some (.int .i64 x)
theorem Four.below {w w' : World} {b : Nat} {y : Int} {m h : Bool} {x : Int} (k : Four w b y m h x) (hb : Below w.heap.size w w') : Four w' b y m h x := ⟨kept_cell hb k.c0, kept_cell hb k.c1, kept_cell hb k.c2, kept_cell hb k.c3⟩
theorem Four.lt {w : World} {b : Nat} {y : Int} {m h : Bool} {x : Int} (k : Four w b y m h x) : b < w.heap.size := by simpa using World.block_lt_of_cell? _ _ k.c0
theorem Four.drewN {w : World} {b : Nat} {y : Int} {m h : Bool} {x : Int} (k : Four w b y m h x) (q : Nat) : Four (w.drewN q) b y m h x := ⟨k.c0, k.c1, k.c2, k.c3⟩
theorem Four.box (w : World) (y : Int) (m h : Bool) (x : Int) (t : TypeId) : Four (w.alloc (.cells #[.int .i64 y, .bool m, .bool h, .int .i64 x] t)) w.heap.size y m h x :=
  ⟨box_cell _ _ _ 0 _ rfl, box_cell _ _ _ 1 _ rfl, box_cell _ _ _ 2 _ rfl, box_cell _ _ _ 3 _ rfl⟩
/-- A version is written over another one. -/
theorem Four.put {w : World} {b : Nat} {y : Int} {m h : Bool} {x : Int} (k : Four w b y m h x) (y' : Int) (m' h' : Bool) (x' : Int) :
    Four ((((w.setCell ⟨b, 0, none⟩ (.int .i64 y')).setCell ⟨b, 1, none⟩ (.bool m')).setCell ⟨b, 2, none⟩ (.bool h')).setCell ⟨b, 3, none⟩ (.int .i64 x')) b y' m' h' x' := by
  refine ⟨?_, ?_, ?_, ?_⟩
  · rw [set_off (by decide), set_off (by decide), set_off (by decide)]
    exact World.cell?_setCell_same _ _ _ k.c0
  · rw [set_off (by decide), set_off (by decide)]
    exact World.cell?_setCell_same _ _ _ (by rw [set_off (by decide)]; exact k.c1)
  · rw [set_off (by decide)]
    exact World.cell?_setCell_same _ _ _ (by rw [set_off (by decide), set_off (by decide)]; exact k.c2)
  · exact World.cell?_setCell_same _ _ _ (by rw [set_off (by decide), set_off (by decide), set_off (by decide)]; exact k.c3)
theorem four_below {w w' : World} {B b : Nat} {u0 u1 u2 u3 : Value} (h : Below B w w') (hb : B ≤ b) : Below B w ((((w'.setCell ⟨b, 0, none⟩ u0).setCell ⟨b, 1, none⟩ u1).setCell ⟨b, 2, none⟩ u2).setCell ⟨b, 3, none⟩ u3) :=
  (((h.setCell (p := ⟨b, 0, none⟩) hb _).setCell (p := ⟨b, 1, none⟩) hb _).setCell (p := ⟨b, 2, none⟩) hb _).setCell (p := ⟨b, 3, none⟩) hb _
/-- A block of four cells that may be written. -/
structure Free4 (w : World) (b : Nat) : Prop where
  f0 : w.frozen? ⟨b, 0, none⟩ = false
  f1 : w.frozen? ⟨b, 1, none⟩ = false
  f2 : w.frozen? ⟨b, 2, none⟩ = false
  f3 : w.frozen? ⟨b, 3, none⟩ = false
theorem Free4.box (w : World) (vs : Array Value) (t : TypeId) : Free4 (w.alloc (.cells vs t)) w.heap.size :=
  ⟨World.frozen?_alloc_at _ _ _ _ rfl, World.frozen?_alloc_at _ _ _ _ rfl, World.frozen?_alloc_at _ _ _ _ rfl, World.frozen?_alloc_at _ _ _ _ rfl⟩
theorem Free4.below {w w' : World} {b : Nat} (h : Free4 w b) (hb : Below w.heap.size w w') (hlt : b < w.heap.size) : Free4 w' b :=
  ⟨kept_free hb ⟨hlt, h.f0⟩, kept_free hb ⟨hlt, h.f1⟩, kept_free hb ⟨hlt, h.f2⟩, kept_free hb ⟨hlt, h.f3⟩⟩
/-- Chains whose binary searches go right: keys and versions rise, and versions are not too many. -/
structure FitC (L : List Chn) : Prop where
  srt : SrtC L
  key : ∀ c ∈ L, keyB c.1 = true
  rise : ∀ c ∈ L, Rise c.2
  few : ∀ c ∈ L, c.2.length ≤ 1954687338214
theorem FitC.count {L : List Chn} (h : FitC L) : L.length ≤ 387420489 := chains_few h.srt h.key
end Go.Proofs.YthmkgfdglkdjmadGreatDoor

namespace Go.Proofs.YthmkgfdglkdjmadGreatDoor
open Go.RowKit

/-- An append onto a row of the call's own, at a step of a statement that draws its order: what else there is stays. -/
theorem step_grow (w : World) {ops : Array Oper} {o : Oper} {a : Act} {K : Act → World → Prop} {Q : Exit → Act → World → Prop} {E : Prop} (hgd : o.guard = none) (s x : Operand) (t e sz bytes : Nat) (z : Value)
    (hu : Tryz.prog.underlying t = some (.slice e)) (hinfo : (Tryz.prog.info? e).map (fun i => (i.zero, i.size, i.bytes)) = some (some z, sz, bytes)) (hzc : z.cells.size = sz) (hsz : 0 < sz) (hby : 0 < bytes)
    (ho : o.op = .call { callee := .builtin .append, args := #[s, x], argTypes := #[t, t] })
    (B : Nat) (v : Value) (n : Nat) (l : List Value) (hs : a.eval s = v) (hown : w.ownsRow B e sz v n l) (base : Option Addr) (m c : Nat) (l2 : List Value) (hx : a.eval x = .slice base m c) (hh : Lies w sz base m c l2) (hone : ∀ u ∈ l2, u.oneCell' = true)
    (hbytes : (n + m) * bytes ≤ 140737488355328) (hB : B ≤ w.heap.size)
    (h : ∀ v' w', w'.ownsRow B e sz v' (n + m) (l ++ l2) → w.grownBy w' v.ownBlock → K (a.put o.dst v') w') : if Region.wanted o (yielded ops a.tmps) = true then Oper.wp Tryz.prog o a w K Q else E := by
  have hw : Region.wanted o (yielded ops a.tmps) = true := by simp [Region.wanted, hgd]
  rw [if_pos hw]
  obtain ⟨i0, hi, hz0, hz1, hz2⟩ := info_parts hinfo
  have hlen := hh.len
  have h63 : n + m ≤ maxLen := by
    have := Nat.le_mul_of_pos_right (n + m) hby
    unfold maxLen; omega
  have key : ∀ ad, base = some ad → (∀ j u, l2[j]? = some u → w.cell? (ad.add j) = some u) → Oper.wp Tryz.prog o a w K Q := fun ad had hnews =>
    wp_append_own w s x t ho B e i0 _ sz bytes hu hi hz0 hz1 hz2 hzc hsz v n l hs hown ad m c l2 (by rw [hx, had]) hlen hnews hone h63 hbytes hB
      (fun v' w' h1 h2 _ => h v' w' h1 h2)
  cases base with
  | some ad =>
    rcases hh.run with he | ⟨b, o', he, hc⟩
    · subst he
      have : l2 = [] := List.eq_nil_of_length_eq_zero (by omega)
      exact key ad rfl (fun j u hu => by rw [this] at hu; simp at hu)
    · cases he
      exact key _ rfl (fun j u hu => by rw [Addr.add_lit]; exact hc j u hu)
  | none =>
    obtain rfl := hh.hdr.nil rfl
    obtain rfl : m = 0 := by have := hh.hdr.le; omega
    have hl2 : l2 = [] := List.eq_nil_of_length_eq_zero (by omega)
    have hrun := run_append_owned_none (P := Tryz.prog) w B t o.type e i0 sz hu hi v n l hown
    unfold Oper.wp
    simp [execOp, ho, resolve, invoke, builtin, hs, hx, hrun, Result.andThen]
    exact h v w (by rw [hl2]; simpa using hown) (World.grownBy.refl _ _)

end Go.Proofs.YthmkgfdglkdjmadGreatDoor

namespace Go.Proofs.YthmkgfdglkdjmadGreatDoor
open Go.RowKit

theorem step_box {A w1 : World} (h : Below A.heap.size A w1) (o : Obj) : Below A.heap.size A (w1.alloc o) := h.alloc h.size o
theorem step_drew {A w1 : World} (h : Below A.heap.size A w1) : Below A.heap.size A w1.drew := ⟨h.os, h.tape, h.output, h.size, h.block⟩
theorem step_row {A w1 w2 : World} {e s n : Nat} {v : Value} {xs : List Value} (h : Below A.heap.size A w1) (ho : w1.ownsRow A.heap.size e s v n xs) (hg : w1.grownBy w2 v.ownBlock) : Below A.heap.size A w2 := h.grown hg h.size (fun k hk => (ho.lt k hk).1)
theorem hold4 {A w' : World} {a b c d : Prop} (h : a ∧ b ∧ c ∧ d ∧ Below A.heap.size A w') : Below A.heap.size A w' := h.2.2.2.2
theorem hold6 {A w' : World} {a b c d e f : Prop} (h : a ∧ b ∧ c ∧ d ∧ e ∧ f ∧ Below A.heap.size A w') : Below A.heap.size A w' := h.2.2.2.2.2.2
end Go.Proofs.YthmkgfdglkdjmadGreatDoor

namespace Go.Proofs.YthmkgfdglkdjmadGreatDoor
open Go.RowKit

/-- Rows behind the first i deeds, one by one. -/
def seqR (r0 : List Row) (D : List Deed3) (i : Nat) : List Row := allD r0 (D.take i)
def writes (D : List Deed3) (k : ByteArray) (i : Nat) : Bool := has (D.getD i default).2.1 k
def verI (r0 : List Row) (D : List Deed3) (dn : Nat → Bool) (k : ByteArray) (i : Nat) : Ver := if dn i = true then ((i : Int), true, isAt k (seqR r0 D (i + 1)), num k (seqR r0 D (i + 1))) else newV i
def newsV (r0 : List Row) (D : List Deed3) (dn : Nat → Bool) (k : ByteArray) (a n : Nat) : List Ver := ((List.range' a n).filter (writes D k)).map (verI r0 D dn k)
def oldV (r0 : List Row) (D : List Deed3) (m : Nat) (b : ByteArray → Int) (k : ByteArray) : List Ver := if isAt k (seqR r0 D m) = true then [(b k, true, true, num k (seqR r0 D m))] else []
structure Good (r0 : List Row) (D : List Deed3) (m : Nat) (dn : Nat → Bool) (b : ByteArray → Int) (e : Eng) : Prop where
  rows : Right r0
  right : RightDs D
  le : m ≤ D.length
  fresh : ∀ i, D.length ≤ i → dn i = false
  base : e.base = m
  deeds : e.deeds = D.drop m
  state : e.state = (List.range' m (D.length - m)).map (fun i => if dn i = true then 1 else 0)
  ends : e.ends = (List.range' m (D.length - m)).map (fun i => if dn i = true then endD (seqR r0 D i) (D.getD i default) else noE)
  srt : SrtC e.chains
  some_ : ∀ c ∈ e.chains, c.2 ≠ []
  vs : ∀ k, vsOf k e.chains = oldV r0 D m b k ++ newsV r0 D dn k m (D.length - m)
  lo : ∀ k, -1 ≤ b k
  hi : ∀ k, b k < m

/-! ### One by one -/
theorem seqR_succ {r0 : List Row} {D : List Deed3} {i : Nat} (h : i < D.length) : seqR r0 D (i + 1) = doD (seqR r0 D i) (D.getD i default) := by
  unfold seqR; rw [take_snoc_getD h, allD_snoc]
theorem seqR_right {r0 : List Row} {D : List Deed3} (h : Right r0) (hD : RightDs D) (i : Nat) : Right (seqR r0 D i) := allD_right _ h (rights_take hD i)
theorem seqR_append {r0 : List Row} {D E : List Deed3} {i : Nat} (h : i ≤ D.length) : seqR r0 (D ++ E) i = seqR r0 D i := by
  unfold seqR; rw [List.take_append_of_le_length h]
theorem seqR_else {r0 : List Row} {D : List Deed3} (h : Right r0) (hD : RightDs D) {i : Nat} (hi : i < D.length) {k : ByteArray} (hk : writes D k i = false) : isAt k (seqR r0 D (i + 1)) = isAt k (seqR r0 D i) ∧ num k (seqR r0 D (i + 1)) = num k (seqR r0 D i) := by
  rw [seqR_succ hi]
  have hn : k ∉ (D.getD i default).2.1 := fun hm => by
    have : writes D k i = true := has_iff.2 hm
    rw [this] at hk; cases hk
  have := doD_else (seqR_right h hD i).srt (rights_at hD hi) hn
  exact ⟨this.2, this.1⟩

/-! ### What is seen -/
theorem befV_low {at_ : Int} : ∀ (l : List Ver) (o : Ver), (∀ v ∈ l, v.by_ < at_) → befV at_ l o = l.getLastD o
  | [], _, _ => rfl
  | v :: l, o, h => by
    rw [befV, if_pos (h v (by simp)), befV_low l v (fun x hx => h x (by simp [hx]))]
    cases l <;> rfl
theorem verI_by (r0 : List Row) (D : List Deed3) (dn : Nat → Bool) (k : ByteArray) (i : Nat) : (verI r0 D dn k i).by_ = i := by
  unfold verI; split <;> rfl
theorem newsV_by {r0 : List Row} {D : List Deed3} {dn : Nat → Bool} {k : ByteArray} {a n : Nat} {v : Ver} (h : v ∈ newsV r0 D dn k a n) : ∃ i, a ≤ i ∧ i < a + n ∧ v = verI r0 D dn k i ∧ writes D k i = true := by
  obtain ⟨i, hi, rfl⟩ := List.mem_map.1 h
  obtain ⟨h1, h2⟩ := List.mem_filter.1 hi
  have := List.mem_range'_1.1 h1
  exact ⟨i, this.1, this.2, rfl, h2⟩
theorem newsV_append (r0 : List Row) (D : List Deed3) (dn : Nat → Bool) (k : ByteArray) (a n m : Nat) : newsV r0 D dn k a (n + m) = newsV r0 D dn k a n ++ newsV r0 D dn k (a + n) m := by
  unfold newsV
  rw [← List.range'_append_1, List.filter_append, List.map_append]
theorem newsV_succ (r0 : List Row) (D : List Deed3) (dn : Nat → Bool) (k : ByteArray) (a n : Nat) : newsV r0 D dn k a (n + 1) = newsV r0 D dn k a n ++ (if writes D k (a + n) = true then [verI r0 D dn k (a + n)] else []) := by
  rw [newsV_append]
  congr 1
  unfold newsV
  simp only [List.range'_one, List.filter_cons, List.filter_nil]
  split <;> rfl
/-- What a key has ahead of a deed, of what is old and those n deeds. -/
def seenV (r0 : List Row) (D : List Deed3) (dn : Nat → Bool) (b : ByteArray → Int) (k : ByteArray) (m n : Nat) : Ver := (newsV r0 D dn k m n).getLastD ((oldV r0 D m b k).getLastD ver0)
theorem getLastD_snoc {α : Type} (l : List α) (x o : α) : (l ++ [x]).getLastD o = x := by
  rw [List.getLastD_eq_getLast?, List.getLast?_concat]; rfl
theorem seen_of {r0 : List Row} {D : List Deed3} {m : Nat} {dn : Nat → Bool} {b : ByteArray → Int} {e : Eng} (G : Good r0 D m dn b e) {n : Nat} (hn : m + n ≤ D.length) (k : ByteArray) : before e.chains k ((m + n : Nat) : Int) = seenV r0 D dn b k m n := by
  unfold before seenV
  rw [G.vs k, show D.length - m = n + (D.length - m - n) from by omega, newsV_append, befV_append, befV_append]
  rw [befV_high _ (fun v hv => by
    obtain ⟨i, h1, _, rfl, _⟩ := newsV_by hv
    rw [verI_by]; omega)]
  rw [befV_low _ _ (fun v hv => by
    obtain ⟨i, _, h2, rfl, _⟩ := newsV_by hv
    rw [verI_by]; omega)]
  congr 1
  refine befV_low _ _ (fun v hv => ?_)
  unfold oldV at hv
  split at hv
  · simp at hv
    rw [hv]
    have := G.hi k
    show b k < _
    omega
  · cases hv
/-- It is made, and is what the key has one by one; or it is to be made by a deed that waits, the last one that writes the key. -/
structure Seen (r0 : List Row) (D : List Deed3) (dn : Nat → Bool) (k : ByteArray) (m at_ : Nat) (v : Ver) : Prop where
  yes : v.made = true → v.has_ = isAt k (seqR r0 D at_) ∧ v.n = num k (seqR r0 D at_)
  no : v.made = false → ∃ i, m ≤ i ∧ i < at_ ∧ writes D k i = true ∧ dn i = false ∧ v = newV i
theorem seen_is {r0 : List Row} {D : List Deed3} {m : Nat} {dn : Nat → Bool} {b : ByteArray → Int} (h : Right r0) (hD : RightDs D) (k : ByteArray) : ∀ n, m + n ≤ D.length → Seen r0 D dn k m (m + n) (seenV r0 D dn b k m n)
  | 0, _ => by
    unfold seenV
    have e : newsV r0 D dn k m 0 = [] := rfl
    rw [e]
    show Seen r0 D dn k m m ((oldV r0 D m b k).getLastD ver0)
    unfold oldV
    split
    · rename_i hk
      exact ⟨fun _ => ⟨hk.symm, rfl⟩, fun h => by cases h⟩
    · rename_i hk
      have hk' : isAt k (seqR r0 D m) = false := by simpa using hk
      exact ⟨fun _ => ⟨hk'.symm, (num_not k _ hk').symm⟩, fun h => by cases h⟩
  | n + 1, hn => by
    have ih := seen_is (m := m) (b := b) (dn := dn) h hD k n (by omega)
    unfold seenV at ih ⊢
    rw [newsV_succ]
    cases hw : writes D k (m + n) with
    | true =>
      rw [if_pos rfl, getLastD_snoc]
      unfold verI
      cases hd : dn (m + n) with
      | true => exact ⟨fun _ => ⟨rfl, rfl⟩, fun h => by cases h⟩
      | false => exact ⟨(fun h => by cases h), fun _ => ⟨m + n, by omega, by omega, hw, hd, rfl⟩⟩
    | false =>
      rw [if_neg (by simp), List.append_nil]
      obtain ⟨e1, e2⟩ := seqR_else h hD (i := m + n) (by omega) hw
      refine ⟨fun hm => ?_, fun hm => ?_⟩
      · obtain ⟨h1, h2⟩ := ih.yes hm
        exact ⟨h1.trans e1.symm, h2.trans e2.symm⟩
      · obtain ⟨i, h1, h2, h3⟩ := ih.no hm
        exact ⟨i, h1, by omega, h3⟩
theorem Good.seen {r0 : List Row} {D : List Deed3} {m : Nat} {dn : Nat → Bool} {b : ByteArray → Int} {e : Eng} (G : Good r0 D m dn b e) {n : Nat} (hn : m + n ≤ D.length) (k : ByteArray) : Seen r0 D dn k m (m + n) (before e.chains k ((m + n : Nat) : Int)) := by
  rw [seen_of G hn k]; exact seen_is G.rows G.right k n hn
theorem Good.len {r0 : List Row} {D : List Deed3} {m : Nat} {dn : Nat → Bool} {b : ByteArray → Int} {e : Eng} (G : Good r0 D m dn b e) : e.deeds.length = D.length - m := by rw [G.deeds, List.length_drop]
theorem Good.deed {r0 : List Row} {D : List Deed3} {m : Nat} {dn : Nat → Bool} {b : ByteArray → Int} {e : Eng} (G : Good r0 D m dn b e) (p : Nat) : e.deeds.getD p default = D.getD (m + p) default := by rw [G.deeds]; simp [List.getD]
theorem Good.at_ {r0 : List Row} {D : List Deed3} {m : Nat} {dn : Nat → Bool} {b : ByteArray → Int} {e : Eng} (G : Good r0 D m dn b e) (p : Nat) : e.base + (p : Int) = ((m + p : Nat) : Int) := by rw [G.base]; omega

/-! ### What a deed needs -/
theorem needs_nil {r0 : List Row} {D : List Deed3} {m : Nat} {dn : Nat → Bool} {b : ByteArray → Int} {e : Eng} (G : Good r0 D m dn b e) {p : Nat} (hp : m + p < D.length) : needsE e p = [] ↔ ∀ x ∈ keysD (D.getD (m + p) default), (before e.chains x ((m + p : Nat) : Int)).made = true := by
  unfold needsE
  rw [List.filter_eq_nil_iff]
  constructor
  · intro h x hx
    cases hm : (before e.chains x ((m + p : Nat) : Int)).made with
    | true => rfl
    | false =>
      obtain ⟨i, h1, h2, _, _, hv⟩ := (G.seen (n := p) (by omega) x).no hm
      have := h (i - m) (List.mem_range.2 (by omega))
      exfalso
      apply this
      unfold needE
      rw [G.deed, G.at_, List.any_eq_true]
      refine ⟨x, hx, ?_⟩
      rw [hv, G.at_]
      have : m + (i - m) = i := by omega
      rw [this]
      simp [newV, Ver.made, Ver.by_]
  · intro h j hj hn
    unfold needE at hn
    rw [G.deed, G.at_, List.any_eq_true] at hn
    obtain ⟨x, hx, h2⟩ := hn
    rw [h x hx] at h2
    simp at h2
end Go.Proofs.YthmkgfdglkdjmadGreatDoor
