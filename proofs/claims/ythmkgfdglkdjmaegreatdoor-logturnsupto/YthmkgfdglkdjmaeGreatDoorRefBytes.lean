/-
  Sum of the program and of the document's answer, walked.
  A map in memory whose keys are signs of a text (int32), and: a statement whose operations come up in whatever order, told by what holds between any two of them.
  The statement in which the document adds one word to an instruction's text, in whatever order its operations come up.
  The document adds one word to an instruction's text.
  The text that the document writes of a right deed is the deed's text.
  The document's Bytes of a right entry, walked.
-/
import Derived.Test.YthmkgfdglkdjmaeGreatDoorOpenEnts
import Derived.Test.YthmkgfdglkdjmaeGreatDoorLogCut
import Derived.Test.YthmkgfdglkdjmaeGreatDoorDeedEq
import Derived.Orders
import Derived.Test.YthmkgfdglkdjmaeGreatDoorPlanOwn
import Derived.Test.YthmkgfdglkdjmaeGreatDoorInsAt
import Derived.Test.YthmkgfdglkdjmaeGreatDoorRefForm
import Derived.Deep.RegionWith
import Derived.Lib.OthersKept
namespace Go.Proofs.YthmkgfdglkdjmaeGreatDoor
open Go.RowKit

set_option maxHeartbeats 2000000 in
theorem logSum_calls (l : T) (b : Option Addr) (n c : Nat) (w : World) (h : BytesIn w b n c l) :
    Calls Tryz.prog 12 #[.slice b n c] w fun e w' => e = .returned (.int .i64 (sumT l)) ∧ w' = w := by
  have hn := BytesIn.count h
  have hm := Nat.le_trans h.hdr.le h.hdr.max
  unfold maxLen at hm
  have HB := hid h
  have HN := hid hn
  clear h hn
  go_enter Tryz.func12, Tryz.ntmps12
  go_wp2
  go_loop [3, 8] (fun s i => ∃ k z : Nat, k ≤ n ∧ i = .int .i64 k ∧ s = .int .i64 z ∧ z < 65521 ∧ Hid (z = sumT (l.take k))) (fun _ i => n - (intOf i).toNat)
  case atStart => exact ⟨0, 1, Nat.zero_le _, rfl, rfl, by decide, rfl⟩
  case round =>
    obtain ⟨k, z, hk, rfl, rfl, hz, HZ⟩ := hrel
    by_cases hlt : k < n
    · have hkl : k < l.length := by rw [← HN.out]; exact hlt
      rcases HB.out.run with h | ⟨b1, o1, rfl, r1⟩
      · omega
      have a0 := r1 k _ (bytesC_at hkl)
      have HS := hid (sum_take hkl)
      clear r1
      generalize l.getD k 0 = x at *
      have hx := x.toNat_lt
      have hi : (k : Int) < (n : Int) := by omega
      have HR : Hid (((stepS z x : Nat) : Int) = ((z : Int) * 257 + (x.toNat : Int) + 1) % 65521) := by show _ = _; unfold stepS; omega
      go_wp2
      go_round
      case rel => exact ⟨k + 1, stepS z x, by omega, by go_num, by rw [HR.out], step_lt _ _, by show _ = _; rw [HS.out, HZ.out]⟩
      case measure => simp [intOf]; omega
    · obtain rfl : k = n := by omega
      have HE : Hid (z = sumT l) := by
        have := HZ.out
        rw [HN.out, List.take_length] at this
        exact this
      go_wp2
      go_ret
      have e := HE.out
      subst e
      exact ⟨rfl, rfl⟩
end Go.Proofs.YthmkgfdglkdjmaeGreatDoor

namespace Go.Proofs.YthmkgfdglkdjmaeGreatDoor
open Go.RowKit

def runeLit (k : Int) : Lit := .int .i32 k
theorem runeLit_inj {a b : Int} (h : runeLit a = runeLit b) : a = b := by simpa [runeLit] using h
theorem runeLit_is (k : Int) : WideAt.IsKeyLit (runeLit k) := by simp [runeLit, WideAt.IsKeyLit]
/-- Block b is a map of at most n entries that has, at each key, what f tells. -/
def MapR (w : World) (b n : Nat) (f : Int → Option Value) : Prop :=
  ∃ D : DataW Value, w.ownsMap Tryz.prog 21 asIs b n D ∧ (∀ k, f k = none → Maps.has D (runeLit k) = false) ∧ (∀ k v, f k = some v → Maps.has D (runeLit k) = true ∧ ∀ z, D.atKey (runeLit k) z = .held v)
theorem MapR.made (w : World) : MapR (w.alloc (.map #[] 0)) w.heap.size 0 (fun _ => none) :=
  ⟨_, World.ownsMap_made w _ _ _, fun _ _ => rfl, fun _ _ h => by cases h⟩
theorem MapR.lt {w : World} {b n : Nat} {f : Int → Option Value} (h : MapR w b n f) : b < w.heap.size := by
  obtain ⟨D, h, _⟩ := h; exact h.lt
theorem MapR.block {w w' : World} {b n : Nat} {f : Int → Option Value} (h : MapR w b n f) (hb : w'.heap[b]? = w.heap[b]?) : MapR w' b n f := by
  obtain ⟨D, ⟨es, clock, h1, h2⟩, r⟩ := h
  exact ⟨D, ⟨es, clock, hb.trans h1, h2⟩, r⟩
theorem MapR.below {w w' : World} {b n : Nat} {f : Int → Option Value} (h : MapR w b n f) (hb : Below w.heap.size w w') : MapR w' b n f := h.block (hb.block b h.lt)
theorem rune_law : Maps.Keyed Tryz.prog 21 := Maps.int_keyed Tryz.underlying21
theorem rune_wf {k : Int} (h0 : 0 ≤ k) (h1 : k < 256) : (Lit.int .i32 k).wf = true := by
  simp [Lit.wf, IntKind.min, IntKind.max, IntKind.bits, IntKind.signed]; omega
/-- m[k] = v. -/
theorem MapR.put {w : World} {b n : Nat} {f : Int → Option Value} (h : MapR w b n f) {t e : TypeId} (ht : Tryz.prog.underlying t = some (.map 21 e)) (hn : n < maxLen) {k : Int} (k0 : 0 ≤ k) (k1 : k < 256) (v : Value) :
    ∃ w', (Instr.mapUpdate t (.map (some b)) (.int .i32 k) v).run Tryz.prog w = .ok () w' ∧ MapR w' b (n + 1) (fun j => if j = k then some v else f j) ∧ w.grownBy w' (some b) := by
  obtain ⟨D, h, h0, h1⟩ := h
  obtain ⟨w', hr, ho, hg⟩ := h.update rune_law ht hn (Maps.keyOf_int_mk Tryz.underlying21 (rune_wf k0 k1)) (val := v) (d := .held v) (ps := []) rfl
  rw [show Lit.int .i32 k = runeLit k from rfl] at ho
  refine ⟨w', hr, ⟨_, ho, fun j hj => ?_, fun j u hj => ?_⟩, hg⟩
  · by_cases e : j = k
    · simp [e] at hj
    · simp only [if_neg e] at hj
      rw [Maps.has_put_other (fun x => e (runeLit_inj x))]
      exact h0 j hj
  · by_cases e : j = k
    · subst e
      simp at hj
      subst hj
      exact ⟨Maps.has_put_same h.isMap (runeLit_is _) _, fun z => Maps.atKey_put_same h.isMap (runeLit_is _) _ z⟩
    · simp only [if_neg e] at hj
      obtain ⟨g1, g2⟩ := h1 j u hj
      exact ⟨by rw [Maps.has_put_other (fun x => e (runeLit_inj x))]; exact g1, fun z => by rw [Maps.atKey_put_other (fun x => e (runeLit_inj x))]; exact g2 z⟩

/-! ### Whatever order -/
/-- How many have not come up yet. -/
def left (listed : Array Bool) : Nat := listed.toList.count false
theorem left_set {listed : Array Bool} {i : Nat} (h : listed.getD i true = false) : left (listed.setIfInBounds i true) + 1 = left listed := by
  unfold left
  obtain ⟨l⟩ := listed
  have hi : i < l.length := by
    by_cases hl : i < l.length
    · exact hl
    · simp [hl] at h
  have h0 : l[i] = false := by simpa [hi] using h
  simp only [List.setIfInBounds_toArray]
  rw [List.count_set (by simpa using hi)]
  have hp : 0 < l.count false := List.count_pos_iff.2 (by rw [← h0]; exact List.getElem_mem hi)
  simp [h0]
  omega
end Go.Proofs.YthmkgfdglkdjmaeGreatDoor

namespace Go.Proofs.YthmkgfdglkdjmaeGreatDoor
open Go.RowKit

/-- What the word of a letter is. -/
def wordOf (i : Ins) (c : UInt8) : ByteArray := ofT (fillP i (placeOf c))
/-- What each operation leaves: Y is the text ahead, I where the instruction lies, c the letter, m the map. -/
def valP (Y : ByteArray) (I : Nat) (i : Ins) (c : UInt8) (m : Nat) : Nat → Value
  | 0 => .string Y
  | 1 => .string (Y ++ ⟨#[32]⟩)
  | 2 => .map (some m)
  | 3 => .pointer (some ⟨I, 1, none⟩)
  | 4 => .int .i64 i.a
  | 5 => .string (ofT (Lib.itoa i.a))
  | 6 => .string (⟨#[114]⟩ ++ ofT (Lib.itoa i.a))
  | 8 => .pointer (some ⟨I, 2, none⟩)
  | 9 => .int .i64 i.b
  | 10 => .string (ofT (Lib.itoa i.b))
  | 11 => .string (⟨#[114]⟩ ++ ofT (Lib.itoa i.b))
  | 13 => .pointer (some ⟨I, 3, none⟩)
  | 14 => .int .i64 i.n
  | 15 => .string (ofT (Lib.itoa i.n))
  | 17 => .pointer (some ⟨I, 4, none⟩)
  | 18 => .string i.key
  | 20 => .map (some m)
  | 21 => .int .i32 c.toNat
  | 22 => .string (wordOf i c)
  | 23 => .string (Y ++ ⟨#[32]⟩ ++ wordOf i c)
  | 24 => .string (Y ++ ⟨#[32]⟩ ++ wordOf i c)
  | _ => undef
def dstP : Nat → Option Nat
  | 0 => some 60 | 1 => some 61 | 2 => some 62 | 3 => some 63 | 4 => some 64 | 5 => some 65 | 6 => some 66 | 8 => some 67 | 9 => some 68 | 10 => some 69 | 11 => some 70
  | 13 => some 71 | 14 => some 72 | 15 => some 73 | 17 => some 74 | 18 => some 75 | 20 => some 76 | 21 => some 77 | 22 => some 78 | 23 => some 79 | 24 => some 3
  | _ => none
/-- The map when those are listed. -/
def mapP (i : Ins) (l : Array Bool) : Int → Option Value := fun k =>
  if k = 114 then (if l.getD 7 false = true then some (.string (⟨#[114]⟩ ++ ofT (Lib.itoa i.a))) else none)
  else if k = 115 then (if l.getD 12 false = true then some (.string (⟨#[114]⟩ ++ ofT (Lib.itoa i.b))) else none)
  else if k = 110 then (if l.getD 16 false = true then some (.string (ofT (Lib.itoa i.n))) else none)
  else if k = 107 then (if l.getD 19 false = true then some (.string i.key) else none)
  else none
theorem getD_set {l : Array Bool} {i j : Nat} (h : l.size = 25) (hi : i < 25) : (l.setIfInBounds i true).getD j false = (if j = i then true else l.getD j false) := by
  by_cases e : j = i
  · subst e; simp [h, hi]
  · have e' : ¬ i = j := fun x => e x.symm
    simp [e, e']

/-- All words lie in the map. -/
def FullP (l : Array Bool) : Prop := l.getD 2 false = true ∧ l.getD 7 false = true ∧ l.getD 12 false = true ∧ l.getD 16 false = true ∧ l.getD 19 false = true
theorem FullP.up {l : Array Bool} (h : FullP l) (hs : l.size = 25) {j : Nat} (hj : j < 25) : FullP (l.setIfInBounds j true) := by
  obtain ⟨h1, h2, h3, h4, h5⟩ := h
  have g : ∀ k, l.getD k false = true → (l.setIfInBounds j true).getD k false = true := fun k hk => by
    rw [getD_set hs hj]; split
    · rfl
    · exact hk
  exact ⟨g _ h1, g _ h2, g _ h3, g _ h4, g _ h5⟩
/-- What holds between any two operations. -/
structure PI (a0 : Act) (w0 : World) (Y : ByteArray) (I : Nat) (i : Ins) (c : UInt8) (l : Array Bool) (a : Act) (w : World) (m n : Nat) : Prop where
  size : l.size = 25
  defers : a.defers = a0.defers
  tsize : a.tmps.size = a0.tmps.size
  frame : ∀ s, (∀ j, j < 25 → dstP j ≠ some s) → a.tmps[s]? = a0.tmps[s]?
  bel : Below w0.heap.size w0 w
  mlo : w0.heap.size ≤ m
  cnt : n + left l ≤ 25
  vals : ∀ j d, j < 25 → dstP j = some d → l.getD j false = true → a.tmps[d]? = some (valP Y I i c m j)
  map : l.getD 2 false = true → MapR w m n (mapP i l)
  early : l.getD 24 false = false → a.tmps[3]? = some (.string Y)
  late : l.getD 24 false = true → l.getD 0 false = true
  ins : l.getD 2 false = false → l.getD 7 false = false ∧ l.getD 12 false = false ∧ l.getD 16 false = false ∧ l.getD 19 false = false ∧ l.getD 20 false = false
  full : l.getD 20 false = true → FullP l

/-- A word is laid into the map. -/
theorem PI.lay {a0 : Act} {w0 : World} {Y : ByteArray} {I : Nat} {i : Ins} {c : UInt8} {l : Array Bool} {a : Act} {w w' : World} {m n : Nat} (h : PI a0 w0 Y I i c l a w m n) {j : Nat} (hj : j = 7 ∨ j = 12 ∨ j = 16 ∨ j = 19) (hu : l.getD j true = false) (h2 : l.getD 2 false = true)
    (hm : MapR w' m (n + 1) (mapP i (l.setIfInBounds j true))) (hg : w.grownBy w' (some m)) : PI a0 w0 Y I i c (l.setIfInBounds j true) a w' m (n + 1) := by
  have hl := left_set hu
  have hc := h.cnt
  have hj25 : j < 25 := by omega
  have gs : ∀ k, (l.setIfInBounds j true).getD k false = (if k = j then true else l.getD k false) := fun k => getD_set h.size hj25
  have ne : ∀ k, k ≠ j → (l.setIfInBounds j true).getD k false = l.getD k false := fun k hk => by rw [gs, if_neg hk]
  refine ⟨by simpa using h.size, h.defers, h.tsize, h.frame, h.bel.grown hg h.bel.size (fun k hk => by cases hk; exact h.mlo), h.mlo, by omega, fun k e hk he hlk => ?_, fun _ => hm, fun h24 => ?_, fun h24 => ?_, fun h2' => ?_, fun hf => ?_⟩
  · have : k ≠ j := fun x => by
      subst x
      rcases hj with rfl | rfl | rfl | rfl <;> cases he
    exact h.vals k e hk he (by rw [← ne k this]; exact hlk)
  · rw [ne 24 (by omega)] at h24; exact h.early h24
  · rw [ne 24 (by omega)] at h24
    rw [ne 0 (by omega)]; exact h.late h24
  · rw [ne 2 (by omega), h2] at h2'; cases h2'
  · rw [ne 20 (by omega)] at hf; exact (h.full hf).up h.size hj25
end Go.Proofs.YthmkgfdglkdjmaeGreatDoor

namespace Go.Proofs.YthmkgfdglkdjmaeGreatDoor
open Go.RowKit

def putAll (a : Act) : List (Nat × Value) → Act
  | [] => a
  | (d, v) :: l => putAll (a.put (some d) v) l
theorem putAll_defers : ∀ (l : List (Nat × Value)) (a : Act), (putAll a l).defers = a.defers
  | [], _ => rfl
  | (d, v) :: l, a => by rw [putAll, putAll_defers l]; rfl
theorem putAll_off : ∀ (l : List (Nat × Value)) (a : Act) (s : Nat), s ∉ l.map (·.1) → (putAll a l).tmps[s]? = a.tmps[s]?
  | [], _, _, _ => rfl
  | (d, v) :: l, a, s, h => by
    simp only [List.map_cons, List.mem_cons, not_or] at h
    rw [putAll, putAll_off l _ s h.2]
    show (a.tmps.setIfInBounds d v)[s]? = _
    rw [Array.getElem?_setIfInBounds, if_neg (fun e => h.1 e.symm)]
theorem putAll_at : ∀ (l : List (Nat × Value)) (a : Act) (s : Nat) (v : Value), (l.map (·.1)).Nodup → (s, v) ∈ l → s < a.tmps.size → (putAll a l).tmps[s]? = some v
  | [], _, _, _, _, h, _ => by cases h
  | (d, u) :: l, a, s, v, hn, h, hs => by
    simp only [List.map_cons, List.nodup_cons] at hn
    rw [putAll]
    rcases List.mem_cons.1 h with e | e
    · obtain ⟨rfl, rfl⟩ : s = d ∧ v = u := by simpa using e
      rw [putAll_off l _ s hn.1]
      show (a.tmps.setIfInBounds s v)[s]? = _
      rw [Array.getElem?_setIfInBounds, if_pos rfl, if_pos hs]
    · exact putAll_at l _ s v hn.2 e (by simpa [Act.put] using hs)
/-- What is left at the end. -/
def lastP (Y : ByteArray) (I : Nat) (i : Ins) (c : UInt8) (m : Nat) : List (Nat × Value) :=
  [(60, valP Y I i c m 0), (61, valP Y I i c m 1), (62, valP Y I i c m 2), (63, valP Y I i c m 3), (64, valP Y I i c m 4), (65, valP Y I i c m 5), (66, valP Y I i c m 6), (67, valP Y I i c m 8), (68, valP Y I i c m 9), (69, valP Y I i c m 10), (70, valP Y I i c m 11),
   (71, valP Y I i c m 13), (72, valP Y I i c m 14), (73, valP Y I i c m 15), (74, valP Y I i c m 17), (75, valP Y I i c m 18), (76, valP Y I i c m 20), (77, valP Y I i c m 21), (78, valP Y I i c m 22), (79, valP Y I i c m 23), (3, valP Y I i c m 24)]
theorem PI.last {a0 : Act} {w0 : World} {Y : ByteArray} {I : Nat} {i : Ins} {c : UInt8} {l : Array Bool} {a : Act} {w : World} {m n : Nat} (h : PI a0 w0 Y I i c l a w m n) (hall : ∀ j, j < 25 → l.getD j false = true) (hsz : 80 ≤ a0.tmps.size) : a = putAll a0 (lastP Y I i c m) := by
  have key : ∀ j d, j < 25 → dstP j = some d → (d, valP Y I i c m j) ∈ lastP Y I i c m := by
    intro j d hj hd
    have : j = 0 ∨ j = 1 ∨ j = 2 ∨ j = 3 ∨ j = 4 ∨ j = 5 ∨ j = 6 ∨ j = 7 ∨ j = 8 ∨ j = 9 ∨ j = 10 ∨ j = 11 ∨ j = 12 ∨ j = 13 ∨ j = 14 ∨ j = 15 ∨ j = 16 ∨ j = 17 ∨ j = 18 ∨ j = 19 ∨ j = 20 ∨ j = 21 ∨ j = 22 ∨ j = 23 ∨ j = 24 := by omega
    rcases this with rfl | rfl | rfl | rfl | rfl | rfl | rfl | rfl | rfl | rfl | rfl | rfl | rfl | rfl | rfl | rfl | rfl | rfl | rfl | rfl | rfl | rfl | rfl | rfl | rfl <;> cases hd <;> simp [lastP]
  have hnd : ((lastP Y I i c m).map (·.1)).Nodup := by
    show [60, 61, 62, 63, 64, 65, 66, 67, 68, 69, 70, 71, 72, 73, 74, 75, 76, 77, 78, 79, 3].Nodup
    decide
  have hts : a.tmps = (putAll a0 (lastP Y I i c m)).tmps := by
    apply Array.ext_getElem?
    intro s
    by_cases hs : ∃ j, j < 25 ∧ dstP j = some s
    · obtain ⟨j, hj, hd⟩ := hs
      have hlt : s < 80 := by
        have : ∀ j, j < 25 → ∀ s, dstP j = some s → s < 80 := by
          intro j hj s hd
          have := key j s hj hd
          simp only [lastP, List.mem_cons, Prod.mk.injEq, List.not_mem_nil, or_false] at this
          omega
        exact this j hj s hd
      rw [h.vals j s hj hd (hall j hj), putAll_at _ a0 s _ hnd (key j s hj hd) (by omega)]
    · rw [h.frame s (fun j hj hd => hs ⟨j, hj, hd⟩), putAll_off]
      intro hm
      have : ∀ s ∈ [60, 61, 62, 63, 64, 65, 66, 67, 68, 69, 70, 71, 72, 73, 74, 75, 76, 77, 78, 79, 3], ∃ j, j < 25 ∧ dstP j = some s := by decide
      exact hs (this s hm)
  have hde : a.defers = (putAll a0 (lastP Y I i c m)).defers := by rw [putAll_defers]; exact h.defers
  cases a
  generalize putAll a0 (lastP Y I i c m) = q at *
  cases q
  simp only at hts hde
  subst hts hde
  rfl
end Go.Proofs.YthmkgfdglkdjmaeGreatDoor

namespace Go.Proofs.YthmkgfdglkdjmaeGreatDoor
open Go.RowKit

end Go.Proofs.YthmkgfdglkdjmaeGreatDoor

namespace Go.Proofs.YthmkgfdglkdjmaeGreatDoor
open Go.RowKit

theorem Spare.below {w w' : World} {b n c : Nat} (h : Spare w b n c) (hb : Below w.heap.size w w') : Spare w' b n c := fun j h1 h2 => by
  obtain ⟨h3, h4⟩ := h j h1 h2
  obtain ⟨v, hv⟩ := Option.isSome_iff_exists.1 h3
  have hlt := World.block_lt_of_cell? _ _ hv
  exact ⟨by rw [kept_cell hb hv]; rfl, kept_free hb ⟨hlt, h4⟩⟩
theorem unlines_snoc (l : List T) (x : T) : unlines (l ++ [x]) = unlines l ++ (x ++ [10]) := by simp [unlines]
theorem data_next {m : Int} {D : List Deed3} {j : Nat} (h : j < D.length) : dataE (m, D.take (j + 1)) = dataE (m, D.take j) ++ printD (D.getD j default) ++ [10] := by
  unfold dataE
  rw [take_snoc_getD h, List.map_append, List.map_cons, List.map_nil, unlines_snoc]
  simp
/-- What a slice of bytes is told to be, that the call has made. -/
def BytesTold (w w' : World) (l : T) (x : Ending) : Prop := ∃ b n c, x = .returned (.slice (some ⟨b, 0, none⟩) n c) ∧ w.heap.size ≤ b ∧ BytesIn w' (some ⟨b, 0, none⟩) n c l ∧ Below w.heap.size w w'
theorem bytes_two (w : World) (x y : UInt8) : BytesIn (w.alloc (.cells #[.int .u8 (x.toNat : Int), .int .u8 (y.toNat : Int)] 5)) (some ⟨w.heap.size, 0, none⟩) 2 2 [x, y] := by
  refine ⟨rfl, ⟨Nat.le_refl _, by unfold maxLen; omega, fun h => by cases h⟩, .inr ⟨_, _, rfl, fun j u hu => ?_⟩⟩
  rw [Nat.zero_add]
  exact box_cell _ _ _ _ _ (by simpa [bytesC] using hu)
theorem bytes_sum (w : World) {t : Nat} (h : t < 65521) : BytesIn (w.alloc (.cells #[.int .u8 ((t : Int) / 256), .int .u8 ((t : Int) % 256)] 5)) (some ⟨w.heap.size, 0, none⟩) 2 2 (sumB t) := by
  have h0 := bytes_two w (UInt8.ofNat (t / 256)) (UInt8.ofNat (t % 256))
  rw [ofNat_small (by omega), ofNat_small (by omega)] at h0
  exact h0
theorem byteInfo : (Tryz.prog.info? 5).map (fun i => (i.zero, i.size, i.bytes)) = some (some (.int .u8 0), 1, 1) := by kernel_rfl
end Go.Proofs.YthmkgfdglkdjmaeGreatDoor
