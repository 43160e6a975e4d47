/-
  Whether two deeds are the same, by the document's answer; the view that the statement DeedTells hands to a deed.
  Put and Drop of the program, of rows that rise.
  The document's own Put, walked: of rows that rise it comes to what the program's Put and Drop come to.
  The document's own Do: a deed done on rows.
  A row of ends that a call owns: how it is laid, and how one end in it is written.
-/
import Derived.Test.YthmkgfdglkdjmadGreatDoorNamedKeep
import Derived.Test.YthmkgfdglkdjmadGreatDoorConcat
import Derived.Test.YthmkgfdglkdjmadGreatDoorRefMath
import Derived.Test.YthmkgfdglkdjmadGreatDoorPlainMath
import Derived.Test.YthmkgfdglkdjmadGreatDoorDeedEq
import Derived.Test.YthmkgfdglkdjmadGreatDoorChainMath
import Derived.Test.YthmkgfdglkdjmadGreatDoorSpots
namespace Go.Proofs.YthmkgfdglkdjmadGreatDoor
open Go.RowKit

set_option maxHeartbeats 4000000 in
theorem refSameDeed_calls (R W : List ByteArray) (C : List Ins) (R' W' : List ByteArray) (C' : List Ins) (rb : Option Addr) (rn rc : Nat) (wb : Option Addr) (wn wc : Nat) (cb : Option Addr) (cn cc : Nat) (rb' : Option Addr) (rn' rc' : Nat) (wb' : Option Addr) (wn' wc' : Nat) (cb' : Option Addr) (cn' cc' : Nat) (w : World)
    (hd : DeedIn w rb rn rc wb wn wc cb cn cc R W C) (hd' : DeedIn w rb' rn' rc' wb' wn' wc' cb' cn' cc' R' W' C') :
    Calls Tryz.prog 42 #[.agg #[.slice rb rn rc, .slice wb wn wc, .slice cb cn cc], .agg #[.slice rb' rn' rc', .slice wb' wn' wc', .slice cb' cn' cc']] w fun e w' =>
      e = .returned (.bool (decide (R = R') && (decide (W = W') && decide (C = C')))) ∧ Below w.heap.size w w' := by
  obtain ⟨A, hA⟩ : ∃ A, A = (w.alloc (.cells #[.slice rb rn rc, .slice wb wn wc, .slice cb cn cc] 75)).alloc (.cells #[.slice rb' rn' rc', .slice wb' wn' wc', .slice cb' cn' cc'] 75) := ⟨_, rfl⟩
  have hb0 : Below w.heap.size w A := by rw [hA]; exact (((Below.refl _ _).alloc (Nat.le_refl _) _).alloc (by simp) _)
  have HB0 := hid hb0
  have HR := hid (fun q => sameTexts_calls R R' rb rn rc rb' rn' rc' (A.drewN q) ((hd.below (below_drewN hb0 q)).tr) ((hd'.below (below_drewN hb0 q)).tr))
  have HW := hid (fun q => sameTexts_calls W W' wb wn wc wb' wn' wc' (A.drewN q) ((hd.below (below_drewN hb0 q)).tw) ((hd'.below (below_drewN hb0 q)).tw))
  have HC1 := hid (hd.below hb0).cd
  have HC2 := hid (hd'.below hb0).cd
  have x2 : A.cell? ⟨w.heap.size, 2, none⟩ = some (.slice cb cn cc) := by rw [hA]; exact box_past _ (box_cell w _ _ 2 _ rfl)
  have y2 : A.cell? ⟨w.heap.size + 1, 2, none⟩ = some (.slice cb' cn' cc') := by
    have := box_cell (w.alloc (.cells #[.slice rb rn rc, .slice wb wn wc, .slice cb cn cc] 75)) #[.slice rb' rn' rc', .slice wb' wn' wc', .slice cb' cn' cc'] 75 2 _ rfl
    rw [World.size_alloc] at this; rw [hA]; exact this
  have HXY := hid (And.intro x2 y2)
  have hm1 := Nat.le_trans hd.cd.hdr.le hd.cd.hdr.max
  have hm2 := Nat.le_trans hd'.cd.hdr.le hd'.cd.hdr.max
  unfold maxLen at hm1 hm2
  have HN1 := hid (Codes.count hd.cd)
  have HN2 := hid (Codes.count hd'.cd)
  clear hd hd' hb0 x2 y2
  generalize decide (R = R') = e1 at *
  generalize decide (W = W') = e2 at *
  cases e1 with
  | false =>
    subst hA
    go_enter Tryz.func42, Tryz.ntmps42
    go_wp2_with fail
    refine (HR.out 0).mono ?_
    rintro e w1 ⟨rfl, q, rfl⟩
    go_wp2
    go_ret
    exact ⟨rfl, below_drewN HB0.out _⟩
  | true =>
    cases e2 with
    | false =>
      subst hA
      go_enter Tryz.func42, Tryz.ntmps42
      go_wp2_with fail
      refine (HR.out 0).mono ?_
      rintro e w1 ⟨rfl, q, rfl⟩
      go_wp2_with fail
      refine (HW.out _).mono ?_
      rintro e w1 ⟨rfl, q2, rfl⟩
      go_wp2
      go_ret
      exact ⟨rfl, below_drewN HB0.out _⟩
    | true =>
      by_cases hne : cn = cn'
      · subst hne
        have HCC : Hid ((true && (true && decide (C = C'))) = decide (C = C')) := by show _ = _; simp
        rw [HCC.out]
        by_cases h0 : cn = 0
        · have h1 : C = [] := List.eq_nil_of_length_eq_zero (by have := HN1.out; omega)
          have h2 : C' = [] := List.eq_nil_of_length_eq_zero (by have := HN2.out; omega)
          subst h0
          subst h1
          subst h2
          subst hA
          go_enter Tryz.func42, Tryz.ntmps42
          go_wp2_with fail
          refine (HR.out 0).mono ?_
          rintro e w1 ⟨rfl, q, rfl⟩
          go_wp2_with fail
          refine (HW.out _).mono ?_
          rintro e w1 ⟨rfl, q2, rfl⟩
          go_wp2
          go_loop [32] (fun i => i = .int .i64 0) (fun _ => 0)
          case atStart => rfl
          case round =>
            obtain rfl := hrel
            go_wp2
            go_ret
            exact ⟨rfl, below_drewN HB0.out _⟩
        · rcases HC1.out.run with h | ⟨b1, o1, rfl, h1⟩
          · exact absurd h h0
          rcases HC2.out.run with h | ⟨b2, o2, rfl, h2⟩
          · exact absurd h h0
          have H1 := hid h1
          have H2 := hid h2
          have z1 := HXY.out.1
          have z2 := HXY.out.2
          clear h1 h2 h0
          subst hA
          go_enter Tryz.func42, Tryz.ntmps42
          go_wp2_with fail
          refine (HR.out 0).mono ?_
          rintro e w1 ⟨rfl, q, rfl⟩
          go_wp2_with fail
          refine (HW.out _).mono ?_
          rintro e w1 ⟨rfl, q2, rfl⟩
          generalize hA2 : (w.alloc (.cells #[.slice rb rn rc, .slice wb wn wc, .slice (some ⟨b1, o1, none⟩) cn cc] 75)).alloc (.cells #[.slice rb' rn' rc', .slice wb' wn' wc', .slice (some ⟨b2, o2, none⟩) cn cc'] 75) = A2 at *
          clear hA2
          go_wp2
          go_loopw [32] (fun i wr => ∃ k : Nat, k ≤ cn ∧ i = .int .i64 k ∧ Hid (C.take k = C'.take k) ∧ ∃ q, wr = A2.drewN q) (fun i _ => cn - (intOf i).toNat)
          case atStart => exact ⟨0, Nat.zero_le _, rfl, rfl, _, rfl⟩
          case round =>
            obtain ⟨k, hk, rfl, HT, q, rfl⟩ := hrel
            by_cases hlt : k < cn
            · have hk1 : k < C.length := by rw [← HN1.out]; exact hlt
              have hk2 : k < C'.length := by rw [← HN2.out]; exact hlt
              obtain ⟨c0, c1, c2, c3, c4⟩ := Codes.cells H1.out hk1
              obtain ⟨d0, d1, d2, d3, d4⟩ := Codes.cells H2.out hk2
              have HS := hid (take_both hk1 hk2 HT.out)
              have HF := hid (ne_both (l := C) (m := C') (k := k))
              generalize C.getD k default = x at *
              generalize C'.getD k default = y at *
              obtain ⟨x0, x1, x2, x3, x4⟩ := x
              obtain ⟨y0, y1, y2, y3, y4⟩ := y
              simp only [Ins.kind, Ins.a, Ins.b, Ins.n, Ins.key] at c0 c1 c2 c3 c4 d0 d1 d2 d3 d4
              have hi : (k : Int) < (cn : Int) := by omega
              by_cases he : (x0, x1, x2, x3, x4) = (y0, y1, y2, y3, y4)
              · simp only [Prod.mk.injEq] at he
                obtain ⟨rfl, rfl, rfl, rfl, rfl⟩ := he
                have t0 : (x0 == x0) = true := by simp
                have t1 : (x1 == x1) = true := by simp
                have t2 : (x2 == x2) = true := by simp
                have t3 : (x3 == x3) = true := by simp
                have t4 : (x4.toList == x4.toList) = true := by simp
                go_wp2
                go_quiet (fail)
                go_wp2
                go_roundw
                case rel => exact ⟨k + 1, by omega, by go_num, HS.out (by simp), _, rfl⟩
                case measure => simp [intOf]; omega
              · have HN := hid (HF.out he)
                rcases first_diff he with h | ⟨rfl, h⟩ | ⟨rfl, rfl, h⟩ | ⟨rfl, rfl, rfl, h⟩ | ⟨rfl, rfl, rfl, rfl, h⟩
                · have t := dec_false h
                  clear he h HS HF
                  go_wp2
                  go_quiet (fail)
                  go_wp2
                  go_ret
                  exact ⟨ret_bool (by simp [HN.out]), below_drewN (below_drewN HB0.out _) _⟩
                · have t := dec_false h
                  clear he h HS HF
                  go_wp2
                  go_quiet (fail)
                  go_wp2
                  go_ret
                  exact ⟨ret_bool (by simp [HN.out]), below_drewN (below_drewN HB0.out _) _⟩
                · have t := dec_false h
                  clear he h HS HF
                  go_wp2
                  go_quiet (fail)
                  go_wp2
                  go_ret
                  exact ⟨ret_bool (by simp [HN.out]), below_drewN (below_drewN HB0.out _) _⟩
                · have t := dec_false h
                  clear he h HS HF
                  go_wp2
                  go_quiet (fail)
                  go_wp2
                  go_ret
                  exact ⟨ret_bool (by simp [HN.out]), below_drewN (below_drewN HB0.out _) _⟩
                · have t := streq_false h
                  clear he h HS HF
                  go_wp2
                  go_quiet (fail)
                  go_wp2
                  go_ret
                  exact ⟨ret_bool (by simp [HN.out]), below_drewN (below_drewN HB0.out _) _⟩
            · obtain rfl : k = cn := by omega
              have HE : Hid (C = C') := by
                show _ = _
                have := HT.out
                rwa [List.take_of_length_le (by rw [← HN1.out]; exact Nat.le_refl _), List.take_of_length_le (by rw [← HN2.out]; exact Nat.le_refl _)] at this
              go_wp2
              go_ret
              exact ⟨ret_bool (by simp [HE.out]), below_drewN HB0.out _⟩
      · have HNE : Hid (decide (C = C') = false) := by
          show _ = _
          simp only [decide_eq_false_iff_not]
          exact fun e => hne (by rw [HN1.out, HN2.out, e])
        rw [HNE.out]
        have t : ((cn : Int) == (cn' : Int)) = false := by simp; omega
        subst hA
        go_enter Tryz.func42, Tryz.ntmps42
        go_wp2_with fail
        refine (HR.out 0).mono ?_
        rintro e w1 ⟨rfl, q, rfl⟩
        go_wp2_with fail
        refine (HW.out _).mono ?_
        rintro e w1 ⟨rfl, q2, rfl⟩
        go_wp2
        go_ret
        exact ⟨rfl, below_drewN HB0.out _⟩

end Go.Proofs.YthmkgfdglkdjmadGreatDoor

namespace Go.Proofs.YthmkgfdglkdjmadGreatDoor
open Go.RowKit

end Go.Proofs.YthmkgfdglkdjmadGreatDoor

namespace Go.Proofs.YthmkgfdglkdjmadGreatDoor
open Go.RowKit

end Go.Proofs.YthmkgfdglkdjmadGreatDoor

namespace Go.Proofs.YthmkgfdglkdjmadGreatDoor
open Go.RowKit

/-- The end of a deed, in a block: whether it failed, and four registers. -/
structure EndAt (w : World) (b : Nat) (r : Nat → Int) : Prop where
  no : w.cell? ⟨b, 0, none⟩ = some (.bool false)
  nofree : w.frozen? ⟨b, 0, none⟩ = false
  at_ : ∀ i, i < 4 → w.cell? ⟨b, 1 + i, none⟩ = some (.int .i64 (r i))
  free : ∀ i, i < 4 → w.frozen? ⟨b, 1 + i, none⟩ = false
  len : ∀ i, 5 ≤ i → w.cell? ⟨b, i, none⟩ = none
theorem EndAt.lt {w : World} {b : Nat} {r : Nat → Int} (h : EndAt w b r) : b < w.heap.size := by simpa using World.block_lt_of_cell? _ _ h.no
theorem EndAt.deep {w w' : World} {b B : Nat} {r : Nat → Int} (h : EndAt w b r) (hb : Below B w w') (hB : b < B) : EndAt w' b r :=
  ⟨by rw [hb.cell (p := ⟨b, 0, none⟩) hB]; exact h.no, by rw [hb.frozen (p := ⟨b, 0, none⟩) hB]; exact h.nofree, fun i hi => by rw [hb.cell (p := ⟨b, 1 + i, none⟩) hB]; exact h.at_ i hi, fun i hi => by rw [hb.frozen (p := ⟨b, 1 + i, none⟩) hB]; exact h.free i hi, fun i hi => by rw [hb.cell (p := ⟨b, i, none⟩) hB]; exact h.len i hi⟩
theorem EndAt.set {w : World} {b : Nat} {r : Nat → Int} (h : EndAt w b r) {a : Nat} (ha : a < 4) (x : Int) : EndAt (w.setCell ⟨b, 1 + a, none⟩ (.int .i64 x)) b (setR r a x) := by
  refine ⟨by rw [set_off (by omega)]; exact h.no, by rw [World.frozen?_setCell]; exact h.nofree, fun i hi => ?_, fun i hi => by rw [World.frozen?_setCell]; exact h.free i hi, fun i hi => by rw [set_off (by omega)]; exact h.len i hi⟩
  by_cases e : i = a
  · subst e
    rw [World.cell?_setCell_same _ _ _ (h.at_ i hi)]; simp [setR]
  · rw [set_off (by omega), h.at_ i hi]; simp [setR, e]
theorem setR_self (r : Nat → Int) (a : Nat) : setR r a (r a) = r := by
  funext i; unfold setR; split
  · rename_i e; rw [e]
  · rfl

/-- What the loop keeps: the end is in the block b, and below b nothing changes. -/
structure DK (w wr : World) (b : Nat) (r : Nat → Int) (nb : Option Addr) (nn nc : Nat) (L l : List Row) (m : Made) (lb : Option Addr) (ln : Nat) : Prop where
  fin : EndAt wr b r
  rows : Holds wr nb nn nc L
  over : Over L l m
  old : Below b w wr
  kind : (nb = lb ∧ nn = ln) ∨ Kind wr 78 nb
theorem DK.deep {w wr wr' : World} {b : Nat} {r : Nat → Int} {nb : Option Addr} {nn nc : Nat} {L l : List Row} {m : Made} {lb : Option Addr} {ln : Nat} (h : DK w wr b r nb nn nc L l m lb ln) (hb : Below wr.heap.size wr wr') : DK w wr' b r nb nn nc L l m lb ln :=
  ⟨h.fin.deep hb h.fin.lt, h.rows.below hb, h.over, h.old.trans (hb.mono (Nat.le_of_lt h.fin.lt)), h.kind.imp id (fun k => k.below hb)⟩
theorem EndAt.no_text {w : World} {b : Nat} {r : Nat → Int} (h : EndAt w b r) (o : Nat) (s : ByteArray) : w.cell? ⟨b, o, none⟩ ≠ some (.string s) := fun e => by
  have : o = 0 ∨ (∃ i, i < 4 ∧ o = 1 + i) ∨ 5 ≤ o := by
    by_cases h0 : o = 0
    · exact .inl h0
    · by_cases h5 : 5 ≤ o
      · exact .inr (.inr h5)
      · exact .inr (.inl ⟨o - 1, by omega, by omega⟩)
  rcases this with rfl | ⟨i, hi, rfl⟩ | h5
  · rw [h.no] at e; cases e
  · rw [h.at_ i hi] at e; cases e
  · rw [h.len o h5] at e; cases e
theorem Holds.beside {w : World} {b : Nat} {r : Nat → Int} {nb : Option Addr} {nn nc : Nat} {L : List Row} (h : Holds w nb nn nc L) (he : EndAt w b r) (x : Nat) (u : Value) : Holds (w.setCell ⟨b, x, none⟩ u) nb nn nc L := by
  refine ⟨h.len, ?_, h.hdr⟩
  rcases h.seg with h0 | ⟨bl, o, e, hc⟩
  · exact .inl h0
  · by_cases hL : L = []
    · exact .inl hL
    · have hpos : 0 < L.length := List.length_pos_iff.2 hL
      have hne : b ≠ bl := fun e2 => by
        subst e2
        exact he.no_text _ _ (hc 0 hpos).1
      refine .inr ⟨bl, o, e, fun i hi => ?_⟩
      rw [World.cell?_setCell_far _ _ _ _ hne, World.cell?_setCell_far _ _ _ _ hne]
      exact hc i hi
/-- No texts lie in a block. -/
def NoText (w : World) (b : Nat) : Prop := ∀ o s, w.cell? ⟨b, o, none⟩ ≠ some (.string s)
theorem NoText.set {w : World} {b x : Nat} {u : Value} (hn : NoText w b) (he : ∃ v, w.cell? ⟨b, x, none⟩ = some v) (hu : ∀ s, u ≠ .string s) : NoText (w.setCell ⟨b, x, none⟩ u) b := fun o s e => by
  by_cases h : x = o
  · subst h
    obtain ⟨v, hv⟩ := he
    rw [World.cell?_setCell_same _ _ _ hv] at e
    exact hu s (by simpa using e)
  · rw [set_off h] at e
    exact hn o s e
theorem DK.set {w wr : World} {b : Nat} {r : Nat → Int} {nb : Option Addr} {nn nc : Nat} {L l : List Row} {m : Made} {lb : Option Addr} {ln : Nat} (h : DK w wr b r nb nn nc L l m lb ln) {a : Nat} (ha : a < 4) (x : Int) : DK w (wr.setCell ⟨b, 1 + a, none⟩ (.int .i64 x)) b (setR r a x) nb nn nc L l m lb ln :=
  ⟨h.fin.set ha x, h.rows.beside h.fin _ _, h.over, h.old.setCell (Nat.le_refl _) _, h.kind.imp id (fun k => k.set _ _)⟩
theorem DK.same {w wr : World} {b : Nat} {r : Nat → Int} {nb : Option Addr} {nn nc : Nat} {L l : List Row} {m : Made} {lb : Option Addr} {ln : Nat} (h : DK w wr b r nb nn nc L l m lb ln) {a : Nat} (ha : a < 4) : DK w (wr.setCell ⟨b, 1 + a, none⟩ (.int .i64 (r a))) b r nb nn nc L l m lb ln := by
  have := h.set ha (r a)
  rwa [setR_self] at this
theorem DK.turn {w wr : World} {b : Nat} {r : Nat → Int} {nb nb' : Option Addr} {nn nc nn' nc' : Nat} {L L' l : List Row} {m m' : Made} {lb : Option Addr} {ln : Nat} (h : DK w wr b r nb nn nc L l m lb ln) (hr : Holds wr nb' nn' nc' L') (ho : Over L' l m') (hk : Kind wr 78 nb') : DK w wr b r nb' nn' nc' L' l m' lb ln := ⟨h.fin, hr, ho, h.old, .inr hk⟩

end Go.Proofs.YthmkgfdglkdjmadGreatDoor

namespace Go.Proofs.YthmkgfdglkdjmadGreatDoor
open Go.RowKit

end Go.Proofs.YthmkgfdglkdjmadGreatDoor
