/-
  The two views that the statement DeedNamed hands to a deed.
  What the loops of the statement DeedNamed keep.
  Whether two deeds are the same, by the document's answer; the view that the statement DeedTells hands to a deed.
  Put and Drop of the program, of rows that rise.
  The document's own Put, walked: of rows that rise it comes to what the program's Put and Drop come to.
-/
import Derived.Test.YtdnafpenljdinadDoorRef
import Derived.ChangeKeysEq
import Derived.Test.YtdnafpenljdinadDoorDeedWrong
import Derived.Test.YtdnafpenljdinadDoorDoMath
namespace Go.Proofs.YtdnafpenljdinadDoor
open Go.RowKit

theorem set_same_below {w : World} {a : Addr} {u : Value} (h : w.cell? a = some u) : Below w.heap.size w (w.setCell a u) := by
  refine ⟨rfl, rfl, rfl, by simp [World.setCell], fun k _ => ?_⟩
  by_cases e : k = a.block
  · subst e
    simp only [World.setCell, Array.getElem?_modify, if_true]
    unfold World.cell? at h
    split at h
    · rename_i c t z hc
      rw [hc]
      split at h
      · cases h
      · rename_i hs
        simp only [Option.map_some, Option.some.injEq, Obj.cells.injEq, and_true]
        rw [if_neg hs]
        apply Array.ext_getElem?
        intro i
        rw [Array.getElem?_setIfInBounds]
        split
        · rename_i e
          subst e
          split
          · exact h.symm
          · rename_i hlt
            rw [Array.getElem?_eq_none (by omega)]
        · rfl
    · cases h
  · exact Below.heap_setCell _ _ _ _ e

theorem boolZero (w : World) : (zeroValue 4).run Tryd.prog w = .ok (.bool false) w := by kernel_rfl

/-- A key that is not there has 0. -/
theorem seen_num (k : ByteArray) (l : List Row) : (if isAt k l = true then num k l else 0) = num k l := by
  cases h : isAt k l with
  | true => rfl
  | false => rw [num_not k l h]; rfl

/-- An append onto a row of the call's own, at a step of a statement that draws its order. -/
theorem step_onto (w : World) {ops : Array Oper} {o : Oper} {a : Act} {K : Act → World → Prop} {Q : Exit → Act → World → Prop} {E : Prop} (hgd : o.guard = none) (s x : Operand) (t e sz bytes : Nat) (z : Value)
    (hu : Tryd.prog.underlying t = some (.slice e)) (hinfo : (Tryd.prog.info? e).map (fun i => (i.zero, i.size, i.bytes)) = some (some z, sz, bytes)) (hzc : z.cells.size = sz) (hsz : 0 < sz) (hby : 0 < bytes)
    (ho : o.op = .call { callee := .builtin .append, args := #[s, x], argTypes := #[t, t] })
    (B : Nat) (v : Value) (n : Nat) (l : List Value) (hs : a.eval s = v) (hown : w.ownsRow B e sz v n l) (base : Option Addr) (m c : Nat) (l2 : List Value) (hx : a.eval x = .slice base m c) (hh : Lies w sz base m c l2) (hone : ∀ u ∈ l2, u.oneCell' = true)
    (hbytes : (n + m) * bytes ≤ 140737488355328) (hB : B ≤ w.heap.size)
    (h : ∀ b' c' w', Lies w' sz b' (n + m) c' (l ++ l2) → Fresh B b' → w'.ownsRow B e sz (.slice b' (n + m) c') (n + m) (l ++ l2) → Below B w w' → K (a.put o.dst (.slice b' (n + m) c')) w') : if Region.wanted o (yielded ops a.tmps) = true then Oper.wp Tryd.prog o a w K Q else E := by
  have hw : Region.wanted o (yielded ops a.tmps) = true := by simp [Region.wanted, hgd]
  rw [if_pos hw]
  obtain ⟨i0, hi, hz0, hz1, hz2⟩ := info_parts hinfo
  have hlen := hh.len
  have h63 : n + m ≤ maxLen := by
    have := Nat.le_mul_of_pos_right (n + m) hby
    unfold maxLen; omega
  have hfin : ∀ v' w', w'.ownsRow B e sz v' (n + m) (l ++ l2) → w.grownBy w' v.ownBlock → K (a.put o.dst v') w' := fun v' w' h1 h2 => by
    obtain ⟨b', c', rfl, hl⟩ := Lies.owned h1
    exact h b' c' w' hl (fun ad e => (h1.lt ad.block (by rw [e]; rfl)).1) h1 ((Below.refl _ _).grown h2 hB (fun k hk => (hown.lt k hk).1))
  have key : ∀ ad, base = some ad → (∀ j u, l2[j]? = some u → w.cell? (ad.add j) = some u) → Oper.wp Tryd.prog o a w K Q := fun ad had hnews =>
    wp_append_own w s x t ho B e i0 _ sz bytes hu hi hz0 hz1 hz2 hzc hsz v n l hs hown ad m c l2 (by rw [hx, had]) hlen hnews hone h63 hbytes hB
      (fun v' w' h1 h2 _ => hfin v' w' h1 h2)
  cases base with
  | some ad =>
    rcases hh.run with he | ⟨b, o', he, hc⟩
    · subst he
      have : l2 = [] := List.eq_nil_of_length_eq_zero (by omega)
      exact key ad rfl (fun j u hu => by rw [this] at hu; simp at hu)
    · cases he
      exact key _ rfl (fun j u hu => by rw [Addr.add_lit]; exact hc j u hu)
  | none =>
    obtain rfl := hh.hdr.nil rfl
    obtain rfl : m = 0 := by have := hh.hdr.le; omega
    have hl2 : l2 = [] := List.eq_nil_of_length_eq_zero (by omega)
    have hrun := run_append_owned_none (P := Tryd.prog) w B t o.type e i0 sz hu hi v n l hown
    unfold Oper.wp
    simp [execOp, ho, resolve, invoke, builtin, hs, hx, hrun, Result.andThen]
    obtain ⟨b', c', rfl, hl⟩ := Lies.owned hown
    have hl' := h b' c' w (by rw [hl2]; simpa using hl) (fun ad e => (hown.lt ad.block (by rw [e]; rfl)).1) (by rw [hl2]; simpa using hown) (Below.refl _ _)
    exact hl'
end Go.Proofs.YtdnafpenljdinadDoor

namespace Go.Proofs.YtdnafpenljdinadDoor
open Go.RowKit

/-- A set of texts, as the statement keeps it. -/
def nameMap (l : List ByteArray) : ByteArray → Option Value := fun k => if has l k = true then some (.bool true) else none
theorem nameMap_snoc (l : List ByteArray) (x : ByteArray) : nameMap (l ++ [x]) = fun j => if j = x then some (.bool true) else nameMap l j := by
  funext j
  unfold nameMap
  rw [has_snoc]
  by_cases e : j = x
  · subst e; simp
  · have : ¬ x = j := fun h => e h.symm
    simp [e, this]
theorem nameMap_nil : nameMap [] = fun _ => none := by funext j; simp [nameMap, has]
theorem nameMap_yes {l : List ByteArray} {k : ByteArray} (h : k ∈ l) : nameMap l k = some (.bool true) := by
  unfold nameMap; rw [if_pos (has_iff.2 h)]
theorem nameMap_getD (l : List ByteArray) (k : ByteArray) : (nameMap l k).getD (.bool false) = .bool (has l k) := by
  unfold nameMap; cases h : has l k <;> simp

/-- Cells lie as they did when one other block alone was written. -/
theorem cell_but {w w' : World} {b x g : Nat} {v : Value} (hg : w.grownBy w' (some g)) (hne : b ≠ g) (h : w.cell? ⟨b, x, none⟩ = some v) : w'.cell? ⟨b, x, none⟩ = some v := by
  have := World.block_lt_of_cell? _ _ h
  rw [World.cell?_of_block (w := w) (a := ⟨b, x, none⟩) (hg.block b this (by simpa using hne))]
  exact h
theorem lies_but {w w' : World} {sz : Nat} {base : Option Addr} {n c g B : Nat} {vs : List Value} (h : Lies w sz base n c vs) (hf : Fresh B base) (hg : w.grownBy w' (some g)) (hB : g < B) : Lies w' sz base n c vs := by
  refine ⟨h.len, h.hdr, ?_⟩
  rcases h.run with h0 | ⟨b, o, e, hr⟩
  · exact .inl h0
  · have hb : B ≤ b := hf _ e
    exact .inr ⟨b, o, e, fun j u hu => cell_but hg (by omega) (hr j u hu)⟩

/-- What the first loop keeps: s is where the map is, its place is behind it. -/
structure NK (w wr : World) (base : Option Addr) (n c j : Nat) (L : List ByteArray) : Prop where
  map : MapIs wr w.heap.size j (nameMap (L.take j))
  place : wr.cell? ⟨w.heap.size + 1, 0, none⟩ = some (.map (some w.heap.size))
  txt : Texts wr base n c L
  old : Below w.heap.size w wr
theorem NK.put {w wr w2 : World} {base : Option Addr} {n c j : Nat} {L : List ByteArray} (h : NK w wr base n c j L) (hj : j < L.length) (hf : Fresh (w.heap.size + 2) base)
    (hm : MapIs w2 w.heap.size (j + 1) (fun k => if k = L.getD j default then some (.bool true) else nameMap (L.take j) k)) (hg : wr.grownBy w2 (some w.heap.size)) : NK w w2 base n c (j + 1) L := by
  refine ⟨?_, cell_but hg (by omega) h.place, lies_but h.txt hf hg (by omega), ⟨hg.os.trans h.old.os, hg.tape.trans h.old.tape, hg.output.trans h.old.output, Nat.le_trans h.old.size hg.size, fun k hk => ?_⟩⟩
  · rw [take_snoc_getD hj, nameMap_snoc]; exact hm
  · have := h.old.size
    rw [hg.block k (by omega) (by simp; omega)]; exact h.old.block k hk

theorem keysOf_vers (m : Made) (W : List ByteArray) : keysOf (vers m W) = W.filter (fun k => (m k).isSome) := by
  induction W with
  | nil => rfl
  | cons k W ih =>
    unfold vers keysOf at *
    rw [List.filterMap_cons, List.filter_cons]
    cases h : m k <;> simp [ih]
/-- What is told of a deed that has ended. -/
def toldV (f : Bool) (m : Made) (W : List ByteArray) : List (ByteArray × Option Int) := if f then [] else vers m W
theorem told_in {f : Bool} {m : Made} {W : List ByteArray} {k : ByteArray} (h : k ∈ keysOf (toldV f m W)) : k ∈ W := by
  unfold toldV at h
  cases f
  · simp only [Bool.false_eq_true, if_false] at h
    rw [keysOf_vers] at h
    exact (List.mem_filter.1 h).1
  · simp [keysOf] at h
theorem told_nodup {f : Bool} {m : Made} {W : List ByteArray} (h : W.Nodup) : (keysOf (toldV f m W)).Nodup := by
  unfold toldV
  cases f
  · simp only [Bool.false_eq_true, if_false]
    rw [keysOf_vers]
    exact h.filter _
  · simp [keysOf]
theorem fresh_key {l : List ByteArray} (h : l.Nodup) {j : Nat} (hj : j < l.length) : has (l.take j) (l.getD j default) = false := by
  cases e : has (l.take j) (l.getD j default) with
  | false => rfl
  | true =>
    rw [has_iff, List.mem_take_iff_getElem] at e
    obtain ⟨i, hi, e⟩ := e
    rw [List.nodup_iff_pairwise_ne, List.pairwise_iff_getElem] at h
    exact absurd (by rw [e]; simp [List.getD, hj]) (h i j (by omega) hj (by omega))

/-- What the second loop keeps: s is the map's block. -/
structure HK2 (w wr : World) (s j : Nat) (L : List ByteArray) : Prop where
  map : MapIs wr s j (nameMap (L.take j))
  old : Below s w wr
theorem HK2.put {w wr w2 : World} {s j : Nat} {L : List ByteArray} (h : HK2 w wr s j L) (hj : j < L.length)
    (hm : MapIs w2 s (j + 1) (fun k => if k = L.getD j default then some (.bool true) else nameMap (L.take j) k)) (hg : wr.grownBy w2 (some s)) : HK2 w w2 s (j + 1) L := by
  refine ⟨?_, ⟨hg.os.trans h.old.os, hg.tape.trans h.old.tape, hg.output.trans h.old.output, Nat.le_trans h.old.size hg.size, fun k hk => ?_⟩⟩
  · rw [take_snoc_getD hj, nameMap_snoc]; exact hm
  · have := h.map.lt
    rw [hg.block k (by omega) (by simp; omega)]; exact h.old.block k hk
theorem below_cell {B : Nat} {w w' : World} {b x : Nat} {v : Value} (hb : Below B w w') (hB : b < B) (h : w.cell? ⟨b, x, none⟩ = some v) : w'.cell? ⟨b, x, none⟩ = some v := by
  rw [hb.cell (p := ⟨b, x, none⟩) hB]; exact h
theorem intCells : Tryd.prog.cellsOf 3 = 1 := by kernel_rfl
set_option maxRecDepth 100000 in
theorem regsEq (a b c d : Int) (w : World) : (Op.equalIn 9999 62 (.agg #[.int .i64 a, .int .i64 b, .int .i64 c, .int .i64 d]) (.agg #[.int .i64 a, .int .i64 b, .int .i64 c, .int .i64 d])).run Tryd.prog w = .ok true w := by
  obtain ⟨i, hi⟩ : ∃ i, Tryd.prog.info? 3 = some i := ⟨_, rfl⟩
  rw [show (9999 : Nat) = 9998 + 1 from rfl, run_equalIn_array w 9998 _ _ Tryd.underlying62 hi, intCells]
  simp [Op.eqItems, List.range, List.range.loop, go_sem]
end Go.Proofs.YtdnafpenljdinadDoor

namespace Go.Proofs.YtdnafpenljdinadDoor
open Go.RowKit

end Go.Proofs.YtdnafpenljdinadDoor

namespace Go.Proofs.YtdnafpenljdinadDoor
open Go.RowKit

theorem cells_one (w : World) (k : ByteArray) (m : Int) (t : TypeId) : Cells (w.alloc (.cells #[.string k, .int .i64 m] t)) w.heap.size 0 [(k, m)] := fun i hi => by
  obtain rfl : i = 0 := by simpa using hi
  refine ⟨?_, ?_⟩ <;> (rw [World.cell?_alloc_at _ _ _ _ (by simp)]; rfl)

/-- Of three things the one with number j. -/
def pick3 {α : Type} (a b c : α) : Nat → α
  | 0 => a
  | 1 => b
  | _ => c

theorem below_new (w : World) (o : Obj) : Below w.heap.size w (w.alloc o) := (Below.refl _ _).alloc (Nat.le_refl _) _

end Go.Proofs.YtdnafpenljdinadDoor

namespace Go.Proofs.YtdnafpenljdinadDoor
open Go.RowKit

theorem cells_two (w : World) (p : Obj) (k : ByteArray) (m : Int) (t : TypeId) : Cells ((w.alloc p).alloc (.cells #[.string k, .int .i64 m] t)) (w.heap.size + 1) 0 [(k, m)] := by
  have := cells_one (w.alloc p) k m t
  rwa [World.size_alloc] at this
theorem holds_one {w : World} {b : Nat} {k : ByteArray} {m : Int} (h : Cells w b 0 [(k, m)]) : Holds w (some ⟨b, 0, none⟩) 1 1 [(k, m)] := Holds.cells rfl h (Nat.le_refl _) (by unfold maxLen; omega)

theorem le_alloc {B : Nat} {w : World} {o : Obj} (h : B ≤ w.heap.size) : B ≤ (w.alloc o).heap.size := by rw [World.size_alloc]; omega
theorem measure_step {j n : Nat} (h : j < n) : n - (intOf (.int .i64 ((j : Int) + 1))).toNat < n - (intOf (.int .i64 (j : Int))).toNat := by simp [intOf]; omega

set_option maxHeartbeats 2000000 in
theorem refPut_trueK (l : List Row) (base : Option Addr) (n c : Nat) (k : ByteArray) (x : Int) (w : World) (hn : (n + 1) * 24 ≤ 140737488355328) (hs : Srt l) (ha : Holds w base n c l) :
    Calls Tryd.prog 33 #[.slice base n c, .string k, .int .i64 x, .bool true] w fun e w' =>
      ∃ base' n' c', e = .returned (.slice base' n' c') ∧ Holds w' base' n' c' (refOut true k x l) ∧ Below w.heap.size w w' ∧ Kind w' 47 base' := by
  have HN := hid ha.len
  have HH := hid ha
  have HS := hid hs
  clear ha hs
  go_enter Tryd.func33, Tryd.ntmps33
  go_wp2
  go_loopw [9, 10, 15] (fun v d i wr => ∃ (j m : Nat) (r : List Row), j ≤ n ∧ m ≤ j + 1 ∧ i = .int .i64 j ∧ d = .bool (!allLess k (l.take j)) ∧ Hid (r = stOut true k x (l.take j)) ∧ Hid (wr.ownsRow w.heap.size 47 2 v m (rowCells r)) ∧ Below w.heap.size w wr) (fun _ _ i _ => n - (intOf i).toNat)
  case atStart => exact ⟨0, 0, [], Nat.zero_le _, Nat.zero_le _, rfl, rfl, rfl, World.ownsRow_nil _ _ _ _, Below.refl _ _⟩
  case round =>
    obtain ⟨j, m, r, hj, hm, rfl, rfl, HR, HO, hbel⟩ := hrel
    have hsz := hbel.size
    have HLT := hid HO.out.lt
    by_cases hlt : j < n
    · have hjl : j < l.length := by rw [← HN.out]; exact hlt
      rcases (HH.out.below hbel).seg with h | ⟨b, o, rfl, hc⟩
      · rw [h] at hjl; simp at hjl
      obtain ⟨c1, d1⟩ := hc j hjl
      have hbw := hc.lt (by omega)
      have HT := hid (take_next hjl)
      have hi : (j : Int) < (n : Int) := by omega
      have HP : Hid ((l.getD j default) = ((l.getD j default).1, (l.getD j default).2)) := rfl
      clear hc
      cases hal : allLess k (l.take j) with
      | true =>
        have hmj : m ≤ j := by
          have e1 := HO.out.1
          rw [rowCells_length, HR.out, stOut, if_pos hal, List.length_take] at e1
          omega
        rcases less_cases (l.getD j default).1 k with hx | hx | hx
        · have HE := hid (st_less (has := true) (n := x) hal hx)
          have HAL : Hid (allLess k (l.take (j + 1)) = true) := by show _ = _; rw [HT.out, allLess_snoc, hal, hx]; rfl
          rw [← HT.out, ← HR.out] at HE
          rw [HP.out] at HE
          generalize (l.getD j default).1 = kk at *
          generalize (l.getD j default).2 = nn at *
          have t1 : Op.bytesLess kk.toList k.toList = true := hx
          have t2 : (kk.toList == k.toList) = false := by simpa using fun e => less_ne hx (toList_inj e)
          have HC := hid (holds_one (cells_two wr (.cells #[.string kk, .int .i64 nn] 47) kk nn 47))
          clear hx hal
          go_wp2_with (at_builtin; refine wpList_app _ rfl _ _ rfl w.heap.size _ m r rfl ((HO.out.alloc _).alloc _) _ _ _ _ rfl HC.out (by omega) (by simp; omega) ?_; intro v1 w2 hown1 hg1)
          go_roundw
          case rel => exact ⟨j + 1, m + 1, _, by omega, by omega, by go_num, by rw [HAL.out]; rfl, HE.out.symm, hown1, ((hbel.alloc hsz _).alloc (by simp; omega) _).grown hg1 (by simp; omega) (fun y hy => (HLT.out y hy).1)⟩
          case measure => simp [intOf]; omega
        · have HE := hid (st_eq (has := true) (n := x) hal hx)
          have HAL : Hid (allLess k (l.take (j + 1)) = false) := by show _ = _; rw [HT.out, allLess_snoc, hal, hx, less_irrefl]; rfl
          rw [← HT.out, ← HR.out] at HE
          simp only [if_true] at HE
          generalize (l.getD j default).1 = kk at *
          generalize (l.getD j default).2 = nn at *
          have t1 : Op.bytesLess kk.toList k.toList = false := by rw [hx]; exact less_irrefl _
          have t2 : (kk.toList == k.toList) = true := by rw [hx]; simp
          clear hx hal
          have HC := hid (holds_one (cells_two wr (.cells #[.string kk, .int .i64 nn] 47) k x 47))
          go_wp2_with (at_builtin; refine wpList_app _ rfl _ _ rfl w.heap.size _ m r rfl ((HO.out.alloc _).alloc _) _ _ _ _ rfl HC.out (by omega) (by simp; omega) ?_)
          intro v1 w2 hown1 hg1
          have p1 : w2.cell? ⟨wr.heap.size, 0, none⟩ = some (.string kk) := hg1.cell (cell_past _ (by rw [World.cell?_alloc_at _ _ _ _ (by simp)]; rfl)) (fun e => by have := (HLT.out _ e.symm).2; simp at this)
          go_wp2
          go_roundw
          case rel => exact ⟨j + 1, m + 1, _, by omega, by omega, by go_num, by rw [HAL.out]; rfl, HE.out.symm, hown1, ((hbel.alloc hsz _).alloc (by simp; omega) _).grown hg1 (by simp; omega) (fun y hy => (HLT.out y hy).1)⟩
          case measure => simp [intOf]; omega
        · have HE := hid (st_more (has := true) (n := x) hal hx)
          have HAL : Hid (allLess k (l.take (j + 1)) = false) := by show _ = _; rw [HT.out, allLess_snoc, hal, less_asymm hx]; rfl
          rw [← HT.out, ← HR.out] at HE
          rw [HP.out] at HE
          simp only [if_true] at HE
          generalize (l.getD j default).1 = kk at *
          generalize (l.getD j default).2 = nn at *
          have t1 : Op.bytesLess kk.toList k.toList = false := less_asymm hx
          have t2 : (kk.toList == k.toList) = false := by simpa using fun e => less_ne hx (toList_inj e).symm
          clear hx hal
          have HC := hid (holds_one (cells_two wr (.cells #[.string kk, .int .i64 nn] 47) k x 47))
          have hb1 : (m + 1) * 24 ≤ 140737488355328 := Nat.le_trans (Nat.mul_le_mul_right 24 (show m + 1 ≤ n + 1 by omega)) hn
          have hb2 : (m + 1 + 1) * 24 ≤ 140737488355328 := Nat.le_trans (Nat.mul_le_mul_right 24 (show m + 1 + 1 ≤ n + 1 by omega)) hn
          have hj1 : j + 1 ≤ n := by omega
          have hm2 : m + 1 + 1 ≤ j + 1 + 1 := by omega
          have B1 := hid hb1
          have B2 := hid hb2
          have B3 := hid hj1
          have B4 := hid hm2
          have B5 := hid hlt
          have B6 := hid hsz
          clear hb1 hb2 hj1 hm2
          go_wp2_with (at_builtin; refine wpList_app _ rfl _ _ rfl w.heap.size _ m r rfl ((HO.out.alloc _).alloc _) _ _ _ _ rfl HC.out B1.out (le_alloc (le_alloc B6.out)) ?_)
          intro v1 w2 hown1 hg1
          have p1 : w2.cell? ⟨wr.heap.size, 0, none⟩ = some (.string kk) := hg1.cell (cell_past _ (by rw [World.cell?_alloc_at _ _ _ _ (by simp)]; rfl)) (fun e => Nat.lt_irrefl _ (HLT.out _ e.symm).2)
          have p2 : w2.cell? ⟨wr.heap.size, 1, none⟩ = some (.int .i64 nn) := hg1.cell (cell_past _ (by rw [World.cell?_alloc_at _ _ _ _ (by simp)]; rfl)) (fun e => Nat.lt_irrefl _ (HLT.out _ e.symm).2)
          have HB2 := hid (((hbel.alloc B6.out _).alloc (le_alloc B6.out) _).grown hg1 (le_alloc (le_alloc B6.out)) (fun y hy => (HLT.out y hy).1))
          have HO3 := hid (hown1.alloc (.cells #[.string kk, .int .i64 nn] 47))
          have HLT2 := hid hown1.lt
          have HC2 := hid (holds_one (cells_one w2 kk nn 47))
          clear hown1 hg1
          go_wp2_with (at_builtin; refine wpList_app _ rfl _ _ rfl w.heap.size v1 (m + 1) (r ++ [(k, x)]) rfl HO3.out _ _ _ [(kk, nn)] rfl HC2.out B2.out (le_alloc HB2.out.size) ?_)
          intro v3 w3 hown3 hg3
          go_wp2
          go_roundw
          case rel => exact ⟨j + 1, m + 1 + 1, r ++ [(k, x), (kk, nn)], B3.out, B4.out, by go_num, by rw [HAL.out]; rfl, (by show _ = _; rw [HE.out]; simp), hown3, (HB2.out.alloc HB2.out.size _).grown hg3 (le_alloc HB2.out.size) (fun y hy => (HLT2.out y hy).1)⟩
          case measure => exact measure_step B5.out
      | false =>
        have hx := more_of_done (k := k) HS.out hjl hal
        have HE := hid (st_done (has := true) (n := x) (x := l.getD j default) hal)
        have HAL : Hid (allLess k (l.take (j + 1)) = false) := by show _ = _; rw [HT.out, allLess_snoc, hal]; rfl
        rw [← HT.out, ← HR.out] at HE
        rw [HP.out] at HE
        have hm2 : m + 1 ≤ n + 1 := by omega
        generalize (l.getD j default).1 = kk at *
        generalize (l.getD j default).2 = nn at *
        have t2 : (kk.toList == k.toList) = false := by simpa using fun e => less_ne hx (toList_inj e).symm
        have HC := hid (holds_one (cells_two wr (.cells #[.string kk, .int .i64 nn] 47) kk nn 47))
        clear hx hal
        go_wp2_with (at_builtin; refine wpList_app _ rfl _ _ rfl w.heap.size _ m r rfl ((HO.out.alloc _).alloc _) _ _ _ _ rfl HC.out (by omega) (by simp; omega) ?_; intro v1 w2 hown1 hg1)
        go_roundw
        case rel => exact ⟨j + 1, m + 1, _, by omega, by omega, by go_num, by rw [HAL.out]; rfl, HE.out.symm, hown1, ((hbel.alloc hsz _).alloc (by simp; omega) _).grown hg1 (by simp; omega) (fun y hy => (HLT.out y hy).1)⟩
        case measure => simp [intOf]; omega
    · have htk : l.take j = l := List.take_of_length_le (by rw [← HN.out]; omega)
      rw [htk] at HR
      rw [htk]
      clear htk
      cases hal : allLess k l with
      | false =>
        have HE := hid (st_fin (has := true) (n := x) hal)
        rw [← HR.out] at HE
        clear hal
        obtain ⟨bo, co, rfl, hho⟩ := holds_of_owned HO.out
        go_wp2
        go_ret
        exact ⟨_, _, _, rfl, by rw [HE.out]; exact hho, hbel, Kind.owned HO.out⟩
      | true =>
        have HE := hid (st_end (has := true) (n := x) hal)
        rw [← HR.out] at HE
        simp only [if_true] at HE
        have hmj : m ≤ n := by
          have e1 := HO.out.1
          rw [rowCells_length, HR.out, stOut, if_pos hal, ← HN.out] at e1
          omega
        clear hal
        have HC := hid (holds_one (cells_one wr k x 47))
        go_wp2_with (at_builtin; refine wpList_app _ rfl _ _ rfl w.heap.size _ m r rfl (HO.out.alloc _) _ _ _ _ rfl HC.out (by omega) (by simp; omega) ?_; intro v1 w2 hown1 hg1)
        obtain ⟨bo, co, rfl, hho⟩ := holds_of_owned hown1
        go_wp2
        go_ret
        exact ⟨_, _, _, rfl, by rw [HE.out]; exact hho, (hbel.alloc hsz _).grown hg1 (by simp; omega) (fun y hy => (HLT.out y hy).1), Kind.owned hown1⟩

set_option maxHeartbeats 2000000 in
theorem refPut_falseK (l : List Row) (base : Option Addr) (n c : Nat) (k : ByteArray) (x : Int) (w : World) (hn : (n + 1) * 24 ≤ 140737488355328) (hs : Srt l) (ha : Holds w base n c l) :
    Calls Tryd.prog 33 #[.slice base n c, .string k, .int .i64 x, .bool false] w fun e w' =>
      ∃ base' n' c', e = .returned (.slice base' n' c') ∧ Holds w' base' n' c' (refOut false k x l) ∧ Below w.heap.size w w' ∧ Kind w' 47 base' := by
  have HN := hid ha.len
  have HH := hid ha
  have HS := hid hs
  clear ha hs
  go_enter Tryd.func33, Tryd.ntmps33
  go_wp2
  go_loopw [9, 10, 15] (fun v d i wr => ∃ (j m : Nat) (r : List Row), j ≤ n ∧ m ≤ j + 1 ∧ i = .int .i64 j ∧ d = .bool (!allLess k (l.take j)) ∧ Hid (r = stOut false k x (l.take j)) ∧ Hid (wr.ownsRow w.heap.size 47 2 v m (rowCells r)) ∧ Below w.heap.size w wr) (fun _ _ i _ => n - (intOf i).toNat)
  case atStart => exact ⟨0, 0, [], Nat.zero_le _, Nat.zero_le _, rfl, rfl, rfl, World.ownsRow_nil _ _ _ _, Below.refl _ _⟩
  case round =>
    obtain ⟨j, m, r, hj, hm, rfl, rfl, HR, HO, hbel⟩ := hrel
    have hsz := hbel.size
    have HLT := hid HO.out.lt
    by_cases hlt : j < n
    · have hjl : j < l.length := by rw [← HN.out]; exact hlt
      rcases (HH.out.below hbel).seg with h | ⟨b, o, rfl, hc⟩
      · rw [h] at hjl; simp at hjl
      obtain ⟨c1, d1⟩ := hc j hjl
      have hbw := hc.lt (by omega)
      have HT := hid (take_next hjl)
      have hi : (j : Int) < (n : Int) := by omega
      have HP : Hid ((l.getD j default) = ((l.getD j default).1, (l.getD j default).2)) := rfl
      clear hc
      cases hal : allLess k (l.take j) with
      | true =>
        have hmj : m ≤ j := by
          have e1 := HO.out.1
          rw [rowCells_length, HR.out, stOut, if_pos hal, List.length_take] at e1
          omega
        rcases less_cases (l.getD j default).1 k with hx | hx | hx
        · have HE := hid (st_less (has := false) (n := x) hal hx)
          have HAL : Hid (allLess k (l.take (j + 1)) = true) := by show _ = _; rw [HT.out, allLess_snoc, hal, hx]; rfl
          rw [← HT.out, ← HR.out] at HE
          rw [HP.out] at HE
          generalize (l.getD j default).1 = kk at *
          generalize (l.getD j default).2 = nn at *
          have t1 : Op.bytesLess kk.toList k.toList = true := hx
          have t2 : (kk.toList == k.toList) = false := by simpa using fun e => less_ne hx (toList_inj e)
          have HC := hid (holds_one (cells_two wr (.cells #[.string kk, .int .i64 nn] 47) kk nn 47))
          clear hx hal
          go_wp2_with (at_builtin; refine wpList_app _ rfl _ _ rfl w.heap.size _ m r rfl ((HO.out.alloc _).alloc _) _ _ _ _ rfl HC.out (by omega) (by simp; omega) ?_; intro v1 w2 hown1 hg1)
          go_roundw
          case rel => exact ⟨j + 1, m + 1, _, by omega, by omega, by go_num, by rw [HAL.out]; rfl, HE.out.symm, hown1, ((hbel.alloc hsz _).alloc (by simp; omega) _).grown hg1 (by simp; omega) (fun y hy => (HLT.out y hy).1)⟩
          case measure => simp [intOf]; omega
        · have HE := hid (st_eq (has := false) (n := x) hal hx)
          have HAL : Hid (allLess k (l.take (j + 1)) = false) := by show _ = _; rw [HT.out, allLess_snoc, hal, hx, less_irrefl]; rfl
          rw [← HT.out, ← HR.out] at HE
          simp only [Bool.false_eq_true, if_false, List.append_nil] at HE
          generalize (l.getD j default).1 = kk at *
          generalize (l.getD j default).2 = nn at *
          have t1 : Op.bytesLess kk.toList k.toList = false := by rw [hx]; exact less_irrefl _
          have t2 : (kk.toList == k.toList) = true := by rw [hx]; simp
          clear hx hal
          go_wp2
          go_roundw
          case rel => exact ⟨j + 1, m, r, by omega, by omega, by go_num, by rw [HAL.out]; rfl, HE.out.symm, HO.out.alloc _, hbel.alloc hsz _⟩
          case measure => simp [intOf]; omega
        · have HE := hid (st_more (has := false) (n := x) hal hx)
          have HAL : Hid (allLess k (l.take (j + 1)) = false) := by show _ = _; rw [HT.out, allLess_snoc, hal, less_asymm hx]; rfl
          rw [← HT.out, ← HR.out] at HE
          rw [HP.out] at HE
          simp only [Bool.false_eq_true, if_false, List.append_nil] at HE
          generalize (l.getD j default).1 = kk at *
          generalize (l.getD j default).2 = nn at *
          have t1 : Op.bytesLess kk.toList k.toList = false := less_asymm hx
          have t2 : (kk.toList == k.toList) = false := by simpa using fun e => less_ne hx (toList_inj e).symm
          clear hx hal
          have HC := hid (holds_one (cells_two wr (.cells #[.string kk, .int .i64 nn] 47) kk nn 47))
          go_wp2_with (at_builtin; refine wpList_app _ rfl _ _ rfl w.heap.size _ m r rfl ((HO.out.alloc _).alloc _) _ _ _ _ rfl HC.out (by omega) (by simp; omega) ?_; intro v1 w2 hown1 hg1)
          go_roundw
          case rel => exact ⟨j + 1, m + 1, _, by omega, by omega, by go_num, by rw [HAL.out]; rfl, HE.out.symm, hown1, ((hbel.alloc hsz _).alloc (by simp; omega) _).grown hg1 (by simp; omega) (fun y hy => (HLT.out y hy).1)⟩
          case measure => simp [intOf]; omega
      | false =>
        have hx := more_of_done (k := k) HS.out hjl hal
        have HE := hid (st_done (has := false) (n := x) (x := l.getD j default) hal)
        have HAL : Hid (allLess k (l.take (j + 1)) = false) := by show _ = _; rw [HT.out, allLess_snoc, hal]; rfl
        rw [← HT.out, ← HR.out] at HE
        rw [HP.out] at HE
        have hm2 : m + 1 ≤ n + 1 := by omega
        generalize (l.getD j default).1 = kk at *
        generalize (l.getD j default).2 = nn at *
        have t2 : (kk.toList == k.toList) = false := by simpa using fun e => less_ne hx (toList_inj e).symm
        have HC := hid (holds_one (cells_two wr (.cells #[.string kk, .int .i64 nn] 47) kk nn 47))
        clear hx hal
        go_wp2_with (at_builtin; refine wpList_app _ rfl _ _ rfl w.heap.size _ m r rfl ((HO.out.alloc _).alloc _) _ _ _ _ rfl HC.out (by omega) (by simp; omega) ?_; intro v1 w2 hown1 hg1)
        go_roundw
        case rel => exact ⟨j + 1, m + 1, _, by omega, by omega, by go_num, by rw [HAL.out]; rfl, HE.out.symm, hown1, ((hbel.alloc hsz _).alloc (by simp; omega) _).grown hg1 (by simp; omega) (fun y hy => (HLT.out y hy).1)⟩
        case measure => simp [intOf]; omega
    · have htk : l.take j = l := List.take_of_length_le (by rw [← HN.out]; omega)
      rw [htk] at HR
      rw [htk]
      clear htk
      cases hal : allLess k l with
      | false =>
        have HE := hid (st_fin (has := false) (n := x) hal)
        rw [← HR.out] at HE
        clear hal
        obtain ⟨bo, co, rfl, hho⟩ := holds_of_owned HO.out
        go_wp2
        go_ret
        exact ⟨_, _, _, rfl, by rw [HE.out]; exact hho, hbel, Kind.owned HO.out⟩
      | true =>
        have HE := hid (st_end (has := false) (n := x) hal)
        rw [← HR.out] at HE
        simp only [Bool.false_eq_true, if_false, List.append_nil] at HE
        have hmj : m ≤ n := by
          have e1 := HO.out.1
          rw [rowCells_length, HR.out, stOut, if_pos hal, ← HN.out] at e1
          omega
        clear hal
        obtain ⟨bo, co, rfl, hho⟩ := holds_of_owned HO.out
        go_wp2
        go_ret
        exact ⟨_, _, _, rfl, by rw [HE.out]; exact hho, hbel, Kind.owned HO.out⟩
theorem refPut_true (l : List Row) (base : Option Addr) (n c : Nat) (k : ByteArray) (x : Int) (w : World) (hn : (n + 1) * 24 ≤ 140737488355328) (hs : Srt l) (ha : Holds w base n c l) :
    Calls Tryd.prog 33 #[.slice base n c, .string k, .int .i64 x, .bool true] w fun e w' =>
      ∃ base' n' c', e = .returned (.slice base' n' c') ∧ Holds w' base' n' c' (refOut true k x l) ∧ Below w.heap.size w w' :=
  (refPut_trueK l base n c k x w hn hs ha).mono fun _ _ ⟨b, n', c', h1, h2, h3, _⟩ => ⟨b, n', c', h1, h2, h3⟩
theorem refPut_false (l : List Row) (base : Option Addr) (n c : Nat) (k : ByteArray) (x : Int) (w : World) (hn : (n + 1) * 24 ≤ 140737488355328) (hs : Srt l) (ha : Holds w base n c l) :
    Calls Tryd.prog 33 #[.slice base n c, .string k, .int .i64 x, .bool false] w fun e w' =>
      ∃ base' n' c', e = .returned (.slice base' n' c') ∧ Holds w' base' n' c' (refOut false k x l) ∧ Below w.heap.size w w' :=
  (refPut_falseK l base n c k x w hn hs ha).mono fun _ _ ⟨b, n', c', h1, h2, h3, _⟩ => ⟨b, n', c', h1, h2, h3⟩
end Go.Proofs.YtdnafpenljdinadDoor
