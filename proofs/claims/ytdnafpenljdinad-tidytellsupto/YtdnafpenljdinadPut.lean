/-
  The two views that the statement DeedNamed hands to a deed.
  What the loops of the statement DeedNamed keep.
  Whether two deeds are the same, by the document's answer; the view that the statement DeedTells hands to a deed.
  Put and Drop of the program, of rows that rise.
-/
import Derived.Test.YtdnafpenljdinadRef
import Derived.ChangeKeysEq
import Derived.Test.YtdnafpenljdinadConcat
namespace Go.Proofs.Ytdnafpenljdinad
open Go.RowKit

theorem set_same_below {w : World} {a : Addr} {u : Value} (h : w.cell? a = some u) : Below w.heap.size w (w.setCell a u) := by
  refine ⟨rfl, rfl, rfl, by simp [World.setCell], fun k _ => ?_⟩
  by_cases e : k = a.block
  · subst e
    simp only [World.setCell, Array.getElem?_modify, if_true]
    unfold World.cell? at h
    split at h
    · rename_i c t z hc
      rw [hc]
      split at h
      · cases h
      · rename_i hs
        simp only [Option.map_some, Option.some.injEq, Obj.cells.injEq, and_true]
        rw [if_neg hs]
        apply Array.ext_getElem?
        intro i
        rw [Array.getElem?_setIfInBounds]
        split
        · rename_i e
          subst e
          split
          · exact h.symm
          · rename_i hlt
            rw [Array.getElem?_eq_none (by omega)]
        · rfl
    · cases h
  · exact Below.heap_setCell _ _ _ _ e

theorem boolZero (w : World) : (zeroValue 4).run Try.prog w = .ok (.bool false) w := by kernel_rfl

/-- A key that is not there has 0. -/
theorem seen_num (k : ByteArray) (l : List Row) : (if isAt k l = true then num k l else 0) = num k l := by
  cases h : isAt k l with
  | true => rfl
  | false => rw [num_not k l h]; rfl

/-- An append onto a row of the call's own, at a step of a statement that draws its order. -/
theorem step_onto (w : World) {ops : Array Oper} {o : Oper} {a : Act} {K : Act → World → Prop} {Q : Exit → Act → World → Prop} {E : Prop} (hgd : o.guard = none) (s x : Operand) (t e sz bytes : Nat) (z : Value)
    (hu : Try.prog.underlying t = some (.slice e)) (hinfo : (Try.prog.info? e).map (fun i => (i.zero, i.size, i.bytes)) = some (some z, sz, bytes)) (hzc : z.cells.size = sz) (hsz : 0 < sz) (hby : 0 < bytes)
    (ho : o.op = .call { callee := .builtin .append, args := #[s, x], argTypes := #[t, t] })
    (B : Nat) (v : Value) (n : Nat) (l : List Value) (hs : a.eval s = v) (hown : w.ownsRow B e sz v n l) (base : Option Addr) (m c : Nat) (l2 : List Value) (hx : a.eval x = .slice base m c) (hh : Lies w sz base m c l2) (hone : ∀ u ∈ l2, u.oneCell' = true)
    (hbytes : (n + m) * bytes ≤ 140737488355328) (hB : B ≤ w.heap.size)
    (h : ∀ b' c' w', Lies w' sz b' (n + m) c' (l ++ l2) → Fresh B b' → w'.ownsRow B e sz (.slice b' (n + m) c') (n + m) (l ++ l2) → Below B w w' → K (a.put o.dst (.slice b' (n + m) c')) w') : if Region.wanted o (yielded ops a.tmps) = true then Oper.wp Try.prog o a w K Q else E := by
  have hw : Region.wanted o (yielded ops a.tmps) = true := by simp [Region.wanted, hgd]
  rw [if_pos hw]
  obtain ⟨i0, hi, hz0, hz1, hz2⟩ := info_parts hinfo
  have hlen := hh.len
  have h63 : n + m ≤ maxLen := by
    have := Nat.le_mul_of_pos_right (n + m) hby
    unfold maxLen; omega
  have hfin : ∀ v' w', w'.ownsRow B e sz v' (n + m) (l ++ l2) → w.grownBy w' v.ownBlock → K (a.put o.dst v') w' := fun v' w' h1 h2 => by
    obtain ⟨b', c', rfl, hl⟩ := Lies.owned h1
    exact h b' c' w' hl (fun ad e => (h1.lt ad.block (by rw [e]; rfl)).1) h1 ((Below.refl _ _).grown h2 hB (fun k hk => (hown.lt k hk).1))
  have key : ∀ ad, base = some ad → (∀ j u, l2[j]? = some u → w.cell? (ad.add j) = some u) → Oper.wp Try.prog o a w K Q := fun ad had hnews =>
    wp_append_own w s x t ho B e i0 _ sz bytes hu hi hz0 hz1 hz2 hzc hsz v n l hs hown ad m c l2 (by rw [hx, had]) hlen hnews hone h63 hbytes hB
      (fun v' w' h1 h2 _ => hfin v' w' h1 h2)
  cases base with
  | some ad =>
    rcases hh.run with he | ⟨b, o', he, hc⟩
    · subst he
      have : l2 = [] := List.eq_nil_of_length_eq_zero (by omega)
      exact key ad rfl (fun j u hu => by rw [this] at hu; simp at hu)
    · cases he
      exact key _ rfl (fun j u hu => by rw [Addr.add_lit]; exact hc j u hu)
  | none =>
    obtain rfl := hh.hdr.nil rfl
    obtain rfl : m = 0 := by have := hh.hdr.le; omega
    have hl2 : l2 = [] := List.eq_nil_of_length_eq_zero (by omega)
    have hrun := run_append_owned_none (P := Try.prog) w B t o.type e i0 sz hu hi v n l hown
    unfold Oper.wp
    simp [execOp, ho, resolve, invoke, builtin, hs, hx, hrun, Result.andThen]
    obtain ⟨b', c', rfl, hl⟩ := Lies.owned hown
    have hl' := h b' c' w (by rw [hl2]; simpa using hl) (fun ad e => (hown.lt ad.block (by rw [e]; rfl)).1) (by rw [hl2]; simpa using hown) (Below.refl _ _)
    exact hl'
end Go.Proofs.Ytdnafpenljdinad

namespace Go.Proofs.Ytdnafpenljdinad
open Go.RowKit

/-- A set of texts, as the statement keeps it. -/
def nameMap (l : List ByteArray) : ByteArray → Option Value := fun k => if has l k = true then some (.bool true) else none
theorem nameMap_snoc (l : List ByteArray) (x : ByteArray) : nameMap (l ++ [x]) = fun j => if j = x then some (.bool true) else nameMap l j := by
  funext j
  unfold nameMap
  rw [has_snoc]
  by_cases e : j = x
  · subst e; simp
  · have : ¬ x = j := fun h => e h.symm
    simp [e, this]
theorem nameMap_nil : nameMap [] = fun _ => none := by funext j; simp [nameMap, has]
theorem nameMap_yes {l : List ByteArray} {k : ByteArray} (h : k ∈ l) : nameMap l k = some (.bool true) := by
  unfold nameMap; rw [if_pos (has_iff.2 h)]
theorem nameMap_getD (l : List ByteArray) (k : ByteArray) : (nameMap l k).getD (.bool false) = .bool (has l k) := by
  unfold nameMap; cases h : has l k <;> simp

/-- Cells lie as they did when one other block alone was written. -/
theorem cell_but {w w' : World} {b x g : Nat} {v : Value} (hg : w.grownBy w' (some g)) (hne : b ≠ g) (h : w.cell? ⟨b, x, none⟩ = some v) : w'.cell? ⟨b, x, none⟩ = some v := by
  have := World.block_lt_of_cell? _ _ h
  rw [World.cell?_of_block (w := w) (a := ⟨b, x, none⟩) (hg.block b this (by simpa using hne))]
  exact h
theorem lies_but {w w' : World} {sz : Nat} {base : Option Addr} {n c g B : Nat} {vs : List Value} (h : Lies w sz base n c vs) (hf : Fresh B base) (hg : w.grownBy w' (some g)) (hB : g < B) : Lies w' sz base n c vs := by
  refine ⟨h.len, h.hdr, ?_⟩
  rcases h.run with h0 | ⟨b, o, e, hr⟩
  · exact .inl h0
  · have hb : B ≤ b := hf _ e
    exact .inr ⟨b, o, e, fun j u hu => cell_but hg (by omega) (hr j u hu)⟩

/-- What the first loop keeps: s is where the map is, its place is behind it. -/
structure NK (w wr : World) (base : Option Addr) (n c j : Nat) (L : List ByteArray) : Prop where
  map : MapIs wr w.heap.size j (nameMap (L.take j))
  place : wr.cell? ⟨w.heap.size + 1, 0, none⟩ = some (.map (some w.heap.size))
  txt : Texts wr base n c L
  old : Below w.heap.size w wr
theorem NK.put {w wr w2 : World} {base : Option Addr} {n c j : Nat} {L : List ByteArray} (h : NK w wr base n c j L) (hj : j < L.length) (hf : Fresh (w.heap.size + 2) base)
    (hm : MapIs w2 w.heap.size (j + 1) (fun k => if k = L.getD j default then some (.bool true) else nameMap (L.take j) k)) (hg : wr.grownBy w2 (some w.heap.size)) : NK w w2 base n c (j + 1) L := by
  refine ⟨?_, cell_but hg (by omega) h.place, lies_but h.txt hf hg (by omega), ⟨hg.os.trans h.old.os, hg.tape.trans h.old.tape, hg.output.trans h.old.output, Nat.le_trans h.old.size hg.size, fun k hk => ?_⟩⟩
  · rw [take_snoc_getD hj, nameMap_snoc]; exact hm
  · have := h.old.size
    rw [hg.block k (by omega) (by simp; omega)]; exact h.old.block k hk

theorem keysOf_vers (m : Made) (W : List ByteArray) : keysOf (vers m W) = W.filter (fun k => (m k).isSome) := by
  induction W with
  | nil => rfl
  | cons k W ih =>
    unfold vers keysOf at *
    rw [List.filterMap_cons, List.filter_cons]
    cases h : m k <;> simp [ih]
/-- What is told of a deed that has ended. -/
def toldV (f : Bool) (m : Made) (W : List ByteArray) : List (ByteArray × Option Int) := if f then [] else vers m W
theorem told_in {f : Bool} {m : Made} {W : List ByteArray} {k : ByteArray} (h : k ∈ keysOf (toldV f m W)) : k ∈ W := by
  unfold toldV at h
  cases f
  · simp only [Bool.false_eq_true, if_false] at h
    rw [keysOf_vers] at h
    exact (List.mem_filter.1 h).1
  · simp [keysOf] at h
theorem told_nodup {f : Bool} {m : Made} {W : List ByteArray} (h : W.Nodup) : (keysOf (toldV f m W)).Nodup := by
  unfold toldV
  cases f
  · simp only [Bool.false_eq_true, if_false]
    rw [keysOf_vers]
    exact h.filter _
  · simp [keysOf]
theorem fresh_key {l : List ByteArray} (h : l.Nodup) {j : Nat} (hj : j < l.length) : has (l.take j) (l.getD j default) = false := by
  cases e : has (l.take j) (l.getD j default) with
  | false => rfl
  | true =>
    rw [has_iff, List.mem_take_iff_getElem] at e
    obtain ⟨i, hi, e⟩ := e
    rw [List.nodup_iff_pairwise_ne, List.pairwise_iff_getElem] at h
    exact absurd (by rw [e]; simp [List.getD, hj]) (h i j (by omega) hj (by omega))

/-- What the second loop keeps: s is the map's block. -/
structure HK2 (w wr : World) (s j : Nat) (L : List ByteArray) : Prop where
  map : MapIs wr s j (nameMap (L.take j))
  old : Below s w wr
theorem HK2.put {w wr w2 : World} {s j : Nat} {L : List ByteArray} (h : HK2 w wr s j L) (hj : j < L.length)
    (hm : MapIs w2 s (j + 1) (fun k => if k = L.getD j default then some (.bool true) else nameMap (L.take j) k)) (hg : wr.grownBy w2 (some s)) : HK2 w w2 s (j + 1) L := by
  refine ⟨?_, ⟨hg.os.trans h.old.os, hg.tape.trans h.old.tape, hg.output.trans h.old.output, Nat.le_trans h.old.size hg.size, fun k hk => ?_⟩⟩
  · rw [take_snoc_getD hj, nameMap_snoc]; exact hm
  · have := h.map.lt
    rw [hg.block k (by omega) (by simp; omega)]; exact h.old.block k hk
theorem below_cell {B : Nat} {w w' : World} {b x : Nat} {v : Value} (hb : Below B w w') (hB : b < B) (h : w.cell? ⟨b, x, none⟩ = some v) : w'.cell? ⟨b, x, none⟩ = some v := by
  rw [hb.cell (p := ⟨b, x, none⟩) hB]; exact h
theorem intCells : Try.prog.cellsOf 3 = 1 := by kernel_rfl
set_option maxRecDepth 100000 in
theorem regsEq (a b c d : Int) (w : World) : (Op.equalIn 9999 67 (.agg #[.int .i64 a, .int .i64 b, .int .i64 c, .int .i64 d]) (.agg #[.int .i64 a, .int .i64 b, .int .i64 c, .int .i64 d])).run Try.prog w = .ok true w := by
  obtain ⟨i, hi⟩ : ∃ i, Try.prog.info? 3 = some i := ⟨_, rfl⟩
  rw [show (9999 : Nat) = 9998 + 1 from rfl, run_equalIn_array w 9998 _ _ Try.underlying67 hi, intCells]
  simp [Op.eqItems, List.range, List.range.loop, go_sem]
end Go.Proofs.Ytdnafpenljdinad

namespace Go.Proofs.Ytdnafpenljdinad
open Go.RowKit

set_option maxHeartbeats 4000000 in
theorem refSameDeed_calls (R W : List ByteArray) (C : List Ins) (R' W' : List ByteArray) (C' : List Ins) (rb : Option Addr) (rn rc : Nat) (wb : Option Addr) (wn wc : Nat) (cb : Option Addr) (cn cc : Nat) (rb' : Option Addr) (rn' rc' : Nat) (wb' : Option Addr) (wn' wc' : Nat) (cb' : Option Addr) (cn' cc' : Nat) (w : World)
    (hd : DeedIn w rb rn rc wb wn wc cb cn cc R W C) (hd' : DeedIn w rb' rn' rc' wb' wn' wc' cb' cn' cc' R' W' C') :
    Calls Try.prog 39 #[.agg #[.slice rb rn rc, .slice wb wn wc, .slice cb cn cc], .agg #[.slice rb' rn' rc', .slice wb' wn' wc', .slice cb' cn' cc']] w fun e w' =>
      e = .returned (.bool (decide (R = R') && (decide (W = W') && decide (C = C')))) ∧ Below w.heap.size w w' := by
  obtain ⟨A, hA⟩ : ∃ A, A = (w.alloc (.cells #[.slice rb rn rc, .slice wb wn wc, .slice cb cn cc] 64)).alloc (.cells #[.slice rb' rn' rc', .slice wb' wn' wc', .slice cb' cn' cc'] 64) := ⟨_, rfl⟩
  have hb0 : Below w.heap.size w A := by rw [hA]; exact (((Below.refl _ _).alloc (Nat.le_refl _) _).alloc (by simp) _)
  have HB0 := hid hb0
  have HR := hid (fun q => sameTexts_calls R R' rb rn rc rb' rn' rc' (A.drewN q) ((hd.below (below_drewN hb0 q)).tr) ((hd'.below (below_drewN hb0 q)).tr))
  have HW := hid (fun q => sameTexts_calls W W' wb wn wc wb' wn' wc' (A.drewN q) ((hd.below (below_drewN hb0 q)).tw) ((hd'.below (below_drewN hb0 q)).tw))
  have HC1 := hid (hd.below hb0).cd
  have HC2 := hid (hd'.below hb0).cd
  have x2 : A.cell? ⟨w.heap.size, 2, none⟩ = some (.slice cb cn cc) := by rw [hA]; exact box_past _ (box_cell w _ _ 2 _ rfl)
  have y2 : A.cell? ⟨w.heap.size + 1, 2, none⟩ = some (.slice cb' cn' cc') := by
    have := box_cell (w.alloc (.cells #[.slice rb rn rc, .slice wb wn wc, .slice cb cn cc] 64)) #[.slice rb' rn' rc', .slice wb' wn' wc', .slice cb' cn' cc'] 64 2 _ rfl
    rw [World.size_alloc] at this; rw [hA]; exact this
  have HXY := hid (And.intro x2 y2)
  have hm1 := Nat.le_trans hd.cd.hdr.le hd.cd.hdr.max
  have hm2 := Nat.le_trans hd'.cd.hdr.le hd'.cd.hdr.max
  unfold maxLen at hm1 hm2
  have HN1 := hid (Codes.count hd.cd)
  have HN2 := hid (Codes.count hd'.cd)
  clear hd hd' hb0 x2 y2
  generalize decide (R = R') = e1 at *
  generalize decide (W = W') = e2 at *
  cases e1 with
  | false =>
    subst hA
    go_enter Try.func39, Try.ntmps39
    go_wp2_with fail
    refine (HR.out 0).mono ?_
    rintro e w1 ⟨rfl, q, rfl⟩
    go_wp2
    go_ret
    exact ⟨rfl, below_drewN HB0.out _⟩
  | true =>
    cases e2 with
    | false =>
      subst hA
      go_enter Try.func39, Try.ntmps39
      go_wp2_with fail
      refine (HR.out 0).mono ?_
      rintro e w1 ⟨rfl, q, rfl⟩
      go_wp2_with fail
      refine (HW.out _).mono ?_
      rintro e w1 ⟨rfl, q2, rfl⟩
      go_wp2
      go_ret
      exact ⟨rfl, below_drewN HB0.out _⟩
    | true =>
      by_cases hne : cn = cn'
      · subst hne
        have HCC : Hid ((true && (true && decide (C = C'))) = decide (C = C')) := by show _ = _; simp
        rw [HCC.out]
        by_cases h0 : cn = 0
        · have h1 : C = [] := List.eq_nil_of_length_eq_zero (by have := HN1.out; omega)
          have h2 : C' = [] := List.eq_nil_of_length_eq_zero (by have := HN2.out; omega)
          subst h0
          subst h1
          subst h2
          subst hA
          go_enter Try.func39, Try.ntmps39
          go_wp2_with fail
          refine (HR.out 0).mono ?_
          rintro e w1 ⟨rfl, q, rfl⟩
          go_wp2_with fail
          refine (HW.out _).mono ?_
          rintro e w1 ⟨rfl, q2, rfl⟩
          go_wp2
          go_loop [32] (fun i => i = .int .i64 0) (fun _ => 0)
          case atStart => rfl
          case round =>
            obtain rfl := hrel
            go_wp2
            go_ret
            exact ⟨rfl, below_drewN HB0.out _⟩
        · rcases HC1.out.run with h | ⟨b1, o1, rfl, h1⟩
          · exact absurd h h0
          rcases HC2.out.run with h | ⟨b2, o2, rfl, h2⟩
          · exact absurd h h0
          have H1 := hid h1
          have H2 := hid h2
          have z1 := HXY.out.1
          have z2 := HXY.out.2
          clear h1 h2 h0
          subst hA
          go_enter Try.func39, Try.ntmps39
          go_wp2_with fail
          refine (HR.out 0).mono ?_
          rintro e w1 ⟨rfl, q, rfl⟩
          go_wp2_with fail
          refine (HW.out _).mono ?_
          rintro e w1 ⟨rfl, q2, rfl⟩
          generalize hA2 : (w.alloc (.cells #[.slice rb rn rc, .slice wb wn wc, .slice (some ⟨b1, o1, none⟩) cn cc] 64)).alloc (.cells #[.slice rb' rn' rc', .slice wb' wn' wc', .slice (some ⟨b2, o2, none⟩) cn cc'] 64) = A2 at *
          clear hA2
          go_wp2
          go_loopw [32] (fun i wr => ∃ k : Nat, k ≤ cn ∧ i = .int .i64 k ∧ Hid (C.take k = C'.take k) ∧ ∃ q, wr = A2.drewN q) (fun i _ => cn - (intOf i).toNat)
          case atStart => exact ⟨0, Nat.zero_le _, rfl, rfl, _, rfl⟩
          case round =>
            obtain ⟨k, hk, rfl, HT, q, rfl⟩ := hrel
            by_cases hlt : k < cn
            · have hk1 : k < C.length := by rw [← HN1.out]; exact hlt
              have hk2 : k < C'.length := by rw [← HN2.out]; exact hlt
              obtain ⟨c0, c1, c2, c3, c4⟩ := Codes.cells H1.out hk1
              obtain ⟨d0, d1, d2, d3, d4⟩ := Codes.cells H2.out hk2
              have HS := hid (take_both hk1 hk2 HT.out)
              have HF := hid (ne_both (l := C) (m := C') (k := k))
              generalize C.getD k default = x at *
              generalize C'.getD k default = y at *
              obtain ⟨x0, x1, x2, x3, x4⟩ := x
              obtain ⟨y0, y1, y2, y3, y4⟩ := y
              simp only [Ins.kind, Ins.a, Ins.b, Ins.n, Ins.key] at c0 c1 c2 c3 c4 d0 d1 d2 d3 d4
              have hi : (k : Int) < (cn : Int) := by omega
              by_cases he : (x0, x1, x2, x3, x4) = (y0, y1, y2, y3, y4)
              · simp only [Prod.mk.injEq] at he
                obtain ⟨rfl, rfl, rfl, rfl, rfl⟩ := he
                have t0 : (x0 == x0) = true := by simp
                have t1 : (x1 == x1) = true := by simp
                have t2 : (x2 == x2) = true := by simp
                have t3 : (x3 == x3) = true := by simp
                have t4 : (x4.toList == x4.toList) = true := by simp
                go_wp2
                go_quiet (fail)
                go_wp2
                go_roundw
                case rel => exact ⟨k + 1, by omega, by go_num, HS.out (by simp), _, rfl⟩
                case measure => simp [intOf]; omega
              · have HN := hid (HF.out he)
                rcases first_diff he with h | ⟨rfl, h⟩ | ⟨rfl, rfl, h⟩ | ⟨rfl, rfl, rfl, h⟩ | ⟨rfl, rfl, rfl, rfl, h⟩
                · have t := dec_false h
                  clear he h HS HF
                  go_wp2
                  go_quiet (fail)
                  go_wp2
                  go_ret
                  exact ⟨ret_bool (by simp [HN.out]), below_drewN (below_drewN HB0.out _) _⟩
                · have t := dec_false h
                  clear he h HS HF
                  go_wp2
                  go_quiet (fail)
                  go_wp2
                  go_ret
                  exact ⟨ret_bool (by simp [HN.out]), below_drewN (below_drewN HB0.out _) _⟩
                · have t := dec_false h
                  clear he h HS HF
                  go_wp2
                  go_quiet (fail)
                  go_wp2
                  go_ret
                  exact ⟨ret_bool (by simp [HN.out]), below_drewN (below_drewN HB0.out _) _⟩
                · have t := dec_false h
                  clear he h HS HF
                  go_wp2
                  go_quiet (fail)
                  go_wp2
                  go_ret
                  exact ⟨ret_bool (by simp [HN.out]), below_drewN (below_drewN HB0.out _) _⟩
                · have t := streq_false h
                  clear he h HS HF
                  go_wp2
                  go_quiet (fail)
                  go_wp2
                  go_ret
                  exact ⟨ret_bool (by simp [HN.out]), below_drewN (below_drewN HB0.out _) _⟩
            · obtain rfl : k = cn := by omega
              have HE : Hid (C = C') := by
                show _ = _
                have := HT.out
                rwa [List.take_of_length_le (by rw [← HN1.out]; exact Nat.le_refl _), List.take_of_length_le (by rw [← HN2.out]; exact Nat.le_refl _)] at this
              go_wp2
              go_ret
              exact ⟨ret_bool (by simp [HE.out]), below_drewN HB0.out _⟩
      · have HNE : Hid (decide (C = C') = false) := by
          show _ = _
          simp only [decide_eq_false_iff_not]
          exact fun e => hne (by rw [HN1.out, HN2.out, e])
        rw [HNE.out]
        have t : ((cn : Int) == (cn' : Int)) = false := by simp; omega
        subst hA
        go_enter Try.func39, Try.ntmps39
        go_wp2_with fail
        refine (HR.out 0).mono ?_
        rintro e w1 ⟨rfl, q, rfl⟩
        go_wp2_with fail
        refine (HW.out _).mono ?_
        rintro e w1 ⟨rfl, q2, rfl⟩
        go_wp2
        go_ret
        exact ⟨rfl, below_drewN HB0.out _⟩

end Go.Proofs.Ytdnafpenljdinad

namespace Go.Proofs.Ytdnafpenljdinad
open Go.RowKit

theorem cells_one (w : World) (k : ByteArray) (m : Int) (t : TypeId) : Cells (w.alloc (.cells #[.string k, .int .i64 m] t)) w.heap.size 0 [(k, m)] := fun i hi => by
  obtain rfl : i = 0 := by simpa using hi
  refine ⟨?_, ?_⟩ <;> (rw [World.cell?_alloc_at _ _ _ _ (by simp)]; rfl)

/-- Of three things the one with number j. -/
def pick3 {α : Type} (a b c : α) : Nat → α
  | 0 => a
  | 1 => b
  | _ => c

theorem below_new (w : World) (o : Obj) : Below w.heap.size w (w.alloc o) := (Below.refl _ _).alloc (Nat.le_refl _) _

end Go.Proofs.Ytdnafpenljdinad
