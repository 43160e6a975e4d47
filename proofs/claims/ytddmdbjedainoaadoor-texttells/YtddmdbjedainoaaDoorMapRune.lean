/-
  A deed's text, put together from its front.
  A map in memory whose keys are signs of a text (int32), and: a statement whose operations come up in whatever order, told by what holds between any two of them.
-/
import Derived.Test.YtddmdbjedainoaaDoorRefForm
import Derived.Test.YtddmdbjedainoaaDoorTextWrite
import Derived.Test.YtddmdbjedainoaaDoorMapIs
import Derived.Orders
namespace Go.Proofs.YtddmdbjedainoaaDoor

def tail1 (l : List T) : T := (l.map fun x => (32 : UInt8) :: x).flatten
def tail2 (l : List T) : T := (l.map fun x => (59 : UInt8) :: 32 :: x).flatten
theorem tail1_snoc (l : List T) (x : T) : tail1 (l ++ [x]) = tail1 l ++ 32 :: x := by simp [tail1]
theorem tail2_snoc (l : List T) (x : T) : tail2 (l ++ [x]) = tail2 l ++ 59 :: 32 :: x := by simp [tail2]
theorem join1_tail : ∀ (l : List T) (x : T), join1 (x :: l) = x ++ tail1 l
  | [], x => by simp [join1, tail1]
  | y :: l, x => by
    rw [join1_cons x (by simp), join1_tail l y]; simp [tail1]
theorem join2_tail : ∀ (l : List T) (x : T), join2 (x :: l) = x ++ tail2 l
  | [], x => by simp [join2, tail2]
  | y :: l, x => by
    rw [join2_cons x (by simp), join2_tail l y]; simp [tail2]
theorem keyT_append (a b : ByteArray) : keyT (a ++ b) = keyT a ++ keyT b := by simp [keyT]
theorem size_append (a b : ByteArray) : (a ++ b).size = a.size + b.size := by
  have h1 := keyT_len (a ++ b)
  have h2 := keyT_len a
  have h3 := keyT_len b
  rw [keyT_append, List.length_append] at h1
  omega
/-- The text up to the j-th key that is read, that is written, and the j-th instruction. -/
def front0 (R : List ByteArray) (j : Nat) : T := wReads ++ tail1 ((R.take j).map keyT)
def front1 (R W : List ByteArray) (j : Nat) : T := front0 R R.length ++ 59 :: 32 :: wWrites ++ tail1 ((W.take j).map keyT)
def front2 (R W : List ByteArray) (C : List Ins) (j : Nat) : T := front1 R W W.length ++ tail2 ((C.take j).map fun i => join1 (insWords i))
theorem front0_next (R : List ByteArray) {j : Nat} (h : j < R.length) : front0 R (j + 1) = front0 R j ++ 32 :: keyT (R.getD j default) := by
  unfold front0; rw [take_snoc_getD h, List.map_append, List.map_cons, List.map_nil, tail1_snoc, List.append_assoc]
theorem front1_next (R W : List ByteArray) {j : Nat} (h : j < W.length) : front1 R W (j + 1) = front1 R W j ++ 32 :: keyT (W.getD j default) := by
  unfold front1; rw [take_snoc_getD h, List.map_append, List.map_cons, List.map_nil, tail1_snoc, List.append_assoc]; simp
theorem front2_next (R W : List ByteArray) (C : List Ins) {j : Nat} (h : j < C.length) : front2 R W C (j + 1) = front2 R W C j ++ 59 :: 32 :: join1 (insWords (C.getD j default)) := by
  unfold front2; rw [take_snoc_getD h, List.map_append, List.map_cons, List.map_nil, tail2_snoc, List.append_assoc]
theorem front2_all (R W : List ByteArray) (C : List Ins) {j : Nat} (h : C.length ≤ j) : front2 R W C j = printT R W C := by
  unfold front2 front1 front0 printT partsOf
  rw [List.take_of_length_le h, List.take_length, List.take_length]
  simp only [List.map_cons]
  rw [join2_tail, join1_tail, join1_tail]
  simp [tail2, List.map_map, Function.comp_def]
theorem words_form {i : Ins} {k : Nat} (hk : i.kind = (k : Int)) (h1 : 1 ≤ k) (h9 : k ≤ 9) : join1 (insWords i) = word k ++ tail1 ((keyT (form k)).map fun c => fillP i (placeOf c)) := by
  rw [← fill_words i hk h1 h9, places_form h1 h9, List.map_cons, fillP_word, join1_tail, List.map_map]
  rfl
end Go.Proofs.YtddmdbjedainoaaDoor

namespace Go.Proofs.YtddmdbjedainoaaDoor
open Go.RowKit

def runeLit (k : Int) : Lit := .int .i32 k
theorem runeLit_inj {a b : Int} (h : runeLit a = runeLit b) : a = b := by simpa [runeLit] using h
theorem runeLit_is (k : Int) : WideAt.IsKeyLit (runeLit k) := by simp [runeLit, WideAt.IsKeyLit]
/-- Block b is a map of at most n entries that has, at each key, what f tells. -/
def MapR (w : World) (b n : Nat) (f : Int → Option Value) : Prop :=
  ∃ D : DataW Value, w.ownsMap Tryd.prog 21 asIs b n D ∧ (∀ k, f k = none → Maps.has D (runeLit k) = false) ∧ (∀ k v, f k = some v → Maps.has D (runeLit k) = true ∧ ∀ z, D.atKey (runeLit k) z = .held v)
theorem MapR.made (w : World) : MapR (w.alloc (.map #[] 0)) w.heap.size 0 (fun _ => none) :=
  ⟨_, World.ownsMap_made w _ _ _, fun _ _ => rfl, fun _ _ h => by cases h⟩
theorem MapR.lt {w : World} {b n : Nat} {f : Int → Option Value} (h : MapR w b n f) : b < w.heap.size := by
  obtain ⟨D, h, _⟩ := h; exact h.lt
theorem MapR.block {w w' : World} {b n : Nat} {f : Int → Option Value} (h : MapR w b n f) (hb : w'.heap[b]? = w.heap[b]?) : MapR w' b n f := by
  obtain ⟨D, ⟨es, clock, h1, h2⟩, r⟩ := h
  exact ⟨D, ⟨es, clock, hb.trans h1, h2⟩, r⟩
theorem MapR.below {w w' : World} {b n : Nat} {f : Int → Option Value} (h : MapR w b n f) (hb : Below w.heap.size w w') : MapR w' b n f := h.block (hb.block b h.lt)
theorem rune_law : Maps.Keyed Tryd.prog 21 := Maps.int_keyed Tryd.underlying21
theorem rune_wf {k : Int} (h0 : 0 ≤ k) (h1 : k < 256) : (Lit.int .i32 k).wf = true := by
  simp [Lit.wf, IntKind.min, IntKind.max, IntKind.bits, IntKind.signed]; omega
/-- m[k]. -/
theorem MapR.get {w : World} {b n : Nat} {f : Int → Option Value} (h : MapR w b n f) {t e : TypeId} (ht : Tryd.prog.underlying t = some (.map 21 e)) {z : Value} (hz : (zeroValue e).run Tryd.prog w = .ok z w) {k : Int} (h0 : 0 ≤ k) (h1 : k < 256) :
    (Instr.lookup t (.map (some b)) (.int .i32 k) false).run Tryd.prog w = .ok ((f k).getD z) w := by
  obtain ⟨D, h, g0, g1⟩ := h
  obtain ⟨v, ps, hr, hv⟩ := h.lookup rune_law ht hz (zd := .held z) (zp := []) rfl (Maps.keyOf_int_mk Tryd.underlying21 (rune_wf h0 h1))
  rw [hr]
  simp only [asIs, Option.some.injEq, Prod.mk.injEq] at hv
  cases hf : f k with
  | none =>
    have e1 : DataW.held v = .held z := by rw [hv.1]; exact Maps.atKey_of_not_has (g0 k hf) (.held z)
    cases e1; rfl
  | some u =>
    have e1 : DataW.held v = .held u := by rw [hv.1]; exact (g1 k u hf).2 _
    cases e1; rfl
/-- m[k] = v. -/
theorem MapR.put {w : World} {b n : Nat} {f : Int → Option Value} (h : MapR w b n f) {t e : TypeId} (ht : Tryd.prog.underlying t = some (.map 21 e)) (hn : n < maxLen) {k : Int} (k0 : 0 ≤ k) (k1 : k < 256) (v : Value) :
    ∃ w', (Instr.mapUpdate t (.map (some b)) (.int .i32 k) v).run Tryd.prog w = .ok () w' ∧ MapR w' b (n + 1) (fun j => if j = k then some v else f j) ∧ w.grownBy w' (some b) := by
  obtain ⟨D, h, h0, h1⟩ := h
  obtain ⟨w', hr, ho, hg⟩ := h.update rune_law ht hn (Maps.keyOf_int_mk Tryd.underlying21 (rune_wf k0 k1)) (val := v) (d := .held v) (ps := []) rfl
  rw [show Lit.int .i32 k = runeLit k from rfl] at ho
  refine ⟨w', hr, ⟨_, ho, fun j hj => ?_, fun j u hj => ?_⟩, hg⟩
  · by_cases e : j = k
    · simp [e] at hj
    · simp only [if_neg e] at hj
      rw [Maps.has_put_other (fun x => e (runeLit_inj x))]
      exact h0 j hj
  · by_cases e : j = k
    · subst e
      simp at hj
      subst hj
      exact ⟨Maps.has_put_same h.isMap (runeLit_is _) _, fun z => Maps.atKey_put_same h.isMap (runeLit_is _) _ z⟩
    · simp only [if_neg e] at hj
      obtain ⟨g1, g2⟩ := h1 j u hj
      exact ⟨by rw [Maps.has_put_other (fun x => e (runeLit_inj x))]; exact g1, fun z => by rw [Maps.atKey_put_other (fun x => e (runeLit_inj x))]; exact g2 z⟩

/-! ### Whatever order -/
/-- How many have not come up yet. -/
def left (listed : Array Bool) : Nat := listed.toList.count false
theorem left_set {listed : Array Bool} {i : Nat} (h : listed.getD i true = false) : left (listed.setIfInBounds i true) + 1 = left listed := by
  unfold left
  obtain ⟨l⟩ := listed
  have hi : i < l.length := by
    by_cases hl : i < l.length
    · exact hl
    · simp [hl] at h
  have h0 : l[i] = false := by simpa [hi] using h
  simp only [List.setIfInBounds_toArray]
  rw [List.count_set (by simpa using hi)]
  have hp : 0 < l.count false := List.count_pos_iff.2 (by rw [← h0]; exact List.getElem_mem hi)
  simp [h0]
  omega
theorem ready_unlisted {md : Region.Mode} {ops : Array Oper} {listed : Array Bool} {i : Nat} (h : i ∈ Region.ready md ops listed) : listed.getD i true = false := by
  unfold Region.ready at h
  simp only [List.mem_filter, Bool.and_eq_true, Bool.not_eq_true'] at h
  exact h.2.1
/-- What holds at the beginning, and is kept by each operation that may come up, holds at the end, whatever the order. -/
theorem wpAny_inv {P : Program} {ops : Array Oper} {Q : Exit → Act → World → Prop} {md : Region.Mode} (Inv : Array Bool → Act → World → Prop)
    (step : ∀ listed a w i, Inv listed a w → i ∈ Region.ready md ops listed → wpOp P ops Q i (Inv (listed.setIfInBounds i true)) a w)
    (done : ∀ listed a w, Inv listed a w → Region.ready md ops listed = [] → Q .normal a w) :
    ∀ (fuel : Nat) (listed : Array Bool) (a : Act) (w : World), left listed ≤ fuel → Inv listed a w → wpAny P md ops Q fuel listed a w
  | 0, listed, a, w, hf, h => by
    have hr : Region.ready md ops listed = [] := by
      apply List.eq_nil_iff_forall_not_mem.2
      intro i hi
      have := left_set (ready_unlisted hi)
      omega
    exact ⟨hr, done _ _ _ h hr⟩
  | fuel + 1, listed, a, w, hf, h => by
    refine ⟨done _ _ _ h, fun i hi => ?_⟩
    refine wpOp_mono (fun a' w' h' => wpAny_inv Inv step done fuel _ a' w' ?_ h') (step _ _ _ i h hi)
    have := left_set (ready_unlisted hi)
    omega
end Go.Proofs.YtddmdbjedainoaaDoor
