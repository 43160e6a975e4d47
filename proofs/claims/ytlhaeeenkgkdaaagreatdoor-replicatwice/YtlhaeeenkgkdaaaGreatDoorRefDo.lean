/-
  The document's own Do: a deed done on rows.
-/
import Derived.Test.YtlhaeeenkgkdaaaGreatDoorOpenDeeds
import Derived.Test.YtlhaeeenkgkdaaaGreatDoorDeedSame
import Derived.Test.YtlhaeeenkgkdaaaGreatDoorRefPut
namespace Go.Proofs.YtlhaeeenkgkdaaaGreatDoor
open Go.RowKit

structure EndAt (w : World) (b : Nat) (r : Nat → Int) : Prop where
 no : w.cell? ⟨b, 0, none⟩ = some (.bool false)
 nofree : w.frozen? ⟨b, 0, none⟩ = false
 at_ : ∀ i, i < 4 → w.cell? ⟨b, 1 + i, none⟩ = some (.int .i64 (r i))
 free : ∀ i, i < 4 → w.frozen? ⟨b, 1 + i, none⟩ = false
 len : ∀ i, 5 ≤ i → w.cell? ⟨b, i, none⟩ = none
theorem EndAt.lt {w : World} {b : Nat} {r : Nat → Int} (h : EndAt w b r) : b < w.heap.size := by simpa using World.block_lt_of_cell? _ _ h.no
theorem EndAt.deep {w w' : World} {b B : Nat} {r : Nat → Int} (h : EndAt w b r) (hb : Below B w w') (hB : b < B) : EndAt w' b r :=
 ⟨by rw [hb.cell (p := ⟨b, 0, none⟩) hB]; exact h.no, by rw [hb.frozen (p := ⟨b, 0, none⟩) hB]; exact h.nofree, fun i hi => by rw [hb.cell (p := ⟨b, 1 + i, none⟩) hB]; exact h.at_ i hi, fun i hi => by rw [hb.frozen (p := ⟨b, 1 + i, none⟩) hB]; exact h.free i hi, fun i hi => by rw [hb.cell (p := ⟨b, i, none⟩) hB]; exact h.len i hi⟩
theorem EndAt.set {w : World} {b : Nat} {r : Nat → Int} (h : EndAt w b r) {a : Nat} (ha : a < 4) (x : Int) : EndAt (w.setCell ⟨b, 1 + a, none⟩ (.int .i64 x)) b (setR r a x) := by
 refine ⟨by rw [set_off (by omega)]; exact h.no, by rw [World.frozen?_setCell]; exact h.nofree, fun i hi => ?_, fun i hi => by rw [World.frozen?_setCell]; exact h.free i hi, fun i hi => by rw [set_off (by omega)]; exact h.len i hi⟩
 by_cases e : i = a
 · subst e
   rw [World.cell?_setCell_same _ _ _ (h.at_ i hi)]; simp [setR]
 · rw [set_off (by omega), h.at_ i hi]; simp [setR, e]
theorem setR_self (r : Nat → Int) (a : Nat) : setR r a (r a) = r := by
 funext i; unfold setR; split
 · rename_i e; rw [e]
 · rfl

structure DK (w wr : World) (b : Nat) (r : Nat → Int) (nb : Option Addr) (nn nc : Nat) (L l : List Row) (m : Made) (lb : Option Addr) (ln : Nat) : Prop where
 fin : EndAt wr b r
 rows : Holds wr nb nn nc L
 over : Over L l m
 old : Below b w wr
 kind : (nb = lb ∧ nn = ln) ∨ Kind wr 117 nb
theorem DK.deep {w wr wr' : World} {b : Nat} {r : Nat → Int} {nb : Option Addr} {nn nc : Nat} {L l : List Row} {m : Made} {lb : Option Addr} {ln : Nat} (h : DK w wr b r nb nn nc L l m lb ln) (hb : Below wr.heap.size wr wr') : DK w wr' b r nb nn nc L l m lb ln :=
 ⟨h.fin.deep hb h.fin.lt, h.rows.below hb, h.over, h.old.trans (hb.mono (Nat.le_of_lt h.fin.lt)), h.kind.imp id (fun k => k.below hb)⟩
theorem EndAt.no_text {w : World} {b : Nat} {r : Nat → Int} (h : EndAt w b r) (o : Nat) (s : ByteArray) : w.cell? ⟨b, o, none⟩ ≠ some (.string s) := fun e => by
 have : o = 0 ∨ (∃ i, i < 4 ∧ o = 1 + i) ∨ 5 ≤ o := by
   by_cases h0 : o = 0
   · exact .inl h0
   · by_cases h5 : 5 ≤ o
     · exact .inr (.inr h5)
     · exact .inr (.inl ⟨o - 1, by omega, by omega⟩)
 rcases this with rfl | ⟨i, hi, rfl⟩ | h5
 · rw [h.no] at e; cases e
 · rw [h.at_ i hi] at e; cases e
 · rw [h.len o h5] at e; cases e
theorem Holds.beside {w : World} {b : Nat} {r : Nat → Int} {nb : Option Addr} {nn nc : Nat} {L : List Row} (h : Holds w nb nn nc L) (he : EndAt w b r) (x : Nat) (u : Value) : Holds (w.setCell ⟨b, x, none⟩ u) nb nn nc L := by
 refine ⟨h.len, ?_, h.hdr⟩
 rcases h.seg with h0 | ⟨bl, o, e, hc⟩
 · exact .inl h0
 · by_cases hL : L = []
   · exact .inl hL
   · have hpos : 0 < L.length := List.length_pos_iff.2 hL
     have hne : b ≠ bl := fun e2 => by
       subst e2
       exact he.no_text _ _ (hc 0 hpos).1
     refine .inr ⟨bl, o, e, fun i hi => ?_⟩
     rw [World.cell?_setCell_far _ _ _ _ hne, World.cell?_setCell_far _ _ _ _ hne]
     exact hc i hi
def NoText (w : World) (b : Nat) : Prop := ∀ o s, w.cell? ⟨b, o, none⟩ ≠ some (.string s)
theorem NoText.set {w : World} {b x : Nat} {u : Value} (hn : NoText w b) (he : ∃ v, w.cell? ⟨b, x, none⟩ = some v) (hu : ∀ s, u ≠ .string s) : NoText (w.setCell ⟨b, x, none⟩ u) b := fun o s e => by
 by_cases h : x = o
 · subst h
   obtain ⟨v, hv⟩ := he
   rw [World.cell?_setCell_same _ _ _ hv] at e
   exact hu s (by simpa using e)
 · rw [set_off h] at e
   exact hn o s e
theorem Holds.near {w : World} {nb : Option Addr} {b nn nc : Nat} {L : List Row} (h : Holds w nb nn nc L) (he : NoText w b) (x : Nat) (u : Value) : Holds (w.setCell ⟨b, x, none⟩ u) nb nn nc L := by
 refine ⟨h.len, ?_, h.hdr⟩
 rcases h.seg with h0 | ⟨bl, o, e, hc⟩
 · exact .inl h0
 · by_cases hL : L = []
   · exact .inl hL
   · have hpos : 0 < L.length := List.length_pos_iff.2 hL
     have hne : b ≠ bl := fun e2 => by
       subst e2
       exact he _ _ (hc 0 hpos).1
     refine .inr ⟨bl, o, e, fun i hi => ?_⟩
     rw [World.cell?_setCell_far _ _ _ _ hne, World.cell?_setCell_far _ _ _ _ hne]
     exact hc i hi
theorem some_set {w : World} {b x j : Nat} {u : Value} (h : ∃ v, w.cell? ⟨b, j, none⟩ = some v) : ∃ v, (w.setCell ⟨b, x, none⟩ u).cell? ⟨b, j, none⟩ = some v := by
 obtain ⟨v, hv⟩ := h
 by_cases e : x = j
 · subst e; exact ⟨u, World.cell?_setCell_same _ _ _ hv⟩
 · exact ⟨v, by rw [set_off e]; exact hv⟩
theorem five_holds {w : World} {nb : Option Addr} {b nn nc : Nat} {L : List Row} {f : Bool} {x0 x1 x2 x3 : Int} (h : Holds w nb nn nc L) (hn : NoText w b) (he : ∀ j, j < 5 → ∃ v, w.cell? ⟨b, j, none⟩ = some v) : Holds (five w b f x0 x1 x2 x3) nb nn nc L := by
 unfold five
 have n1 := hn.set (x := 0) (u := .bool f) (he 0 (by decide)) (fun s e => by cases e)
 have n2 := n1.set (x := 1) (u := .int .i64 x0) (some_set (he 1 (by decide))) (fun s e => by cases e)
 have n3 := n2.set (x := 2) (u := .int .i64 x1) (some_set (some_set (he 2 (by decide)))) (fun s e => by cases e)
 have n4 := n3.set (x := 3) (u := .int .i64 x2) (some_set (some_set (some_set (he 3 (by decide))))) (fun s e => by cases e)
 exact ((((h.near hn 0 _).near n1 1 _).near n2 2 _).near n3 3 _).near n4 4 _
theorem five_kind {w : World} {b : Nat} {t : TypeId} {nb : Option Addr} {f : Bool} {x0 x1 x2 x3 : Int} (h : Kind w t nb) : Kind (five w b f x0 x1 x2 x3) t nb :=
 ((((h.set _ _).set _ _).set _ _).set _ _).set _ _
theorem do_results (tmps : Array Value) (b : Nat) (w : World) {f : Bool} {x0 x1 x2 x3 : Int} (h5 : tmps.getD 5 undef = .pointer (some ⟨b, 0, none⟩)) (h : Five w b f x0 x1 x2 x3) :
   (results Tryz.f42 tmps).run Tryz.prog w = .ok (.tuple #[tmps.getD 4 undef, .agg #[.bool f, .int .i64 x0, .int .i64 x1, .int .i64 x2, .int .i64 x3]]) w := by
 have h5' : tmps[5]?.getD undef = .pointer (some ⟨b, 0, none⟩) := by simpa using h5
 simp [results, Tryz.results42, go_sem, h5', h.c0, h.c1, h.c2, h.c3, h.c4]
theorem five_drew {w : World} {b : Nat} {f : Bool} {x0 x1 x2 x3 : Int} (h : Five w b f x0 x1 x2 x3) : Five w.drew b f x0 x1 x2 x3 := ⟨h.c0, h.c1, h.c2, h.c3, h.c4⟩
theorem DK.set {w wr : World} {b : Nat} {r : Nat → Int} {nb : Option Addr} {nn nc : Nat} {L l : List Row} {m : Made} {lb : Option Addr} {ln : Nat} (h : DK w wr b r nb nn nc L l m lb ln) {a : Nat} (ha : a < 4) (x : Int) : DK w (wr.setCell ⟨b, 1 + a, none⟩ (.int .i64 x)) b (setR r a x) nb nn nc L l m lb ln :=
 ⟨h.fin.set ha x, h.rows.beside h.fin _ _, h.over, h.old.setCell (Nat.le_refl _) _, h.kind.imp id (fun k => k.set _ _)⟩
theorem DK.same {w wr : World} {b : Nat} {r : Nat → Int} {nb : Option Addr} {nn nc : Nat} {L l : List Row} {m : Made} {lb : Option Addr} {ln : Nat} (h : DK w wr b r nb nn nc L l m lb ln) {a : Nat} (ha : a < 4) : DK w (wr.setCell ⟨b, 1 + a, none⟩ (.int .i64 (r a))) b r nb nn nc L l m lb ln := by
 have := h.set ha (r a)
 rwa [setR_self] at this
theorem DK.turn {w wr : World} {b : Nat} {r : Nat → Int} {nb nb' : Option Addr} {nn nc nn' nc' : Nat} {L L' l : List Row} {m m' : Made} {lb : Option Addr} {ln : Nat} (h : DK w wr b r nb nn nc L l m lb ln) (hr : Holds wr nb' nn' nc' L') (ho : Over L' l m') (hk : Kind wr 117 nb') : DK w wr b r nb' nn' nc' L' l m' lb ln := ⟨h.fin, hr, ho, h.old, .inr hk⟩

set_option maxHeartbeats 8000000 in
set_option maxRecDepth 100000 in
theorem refDo_callsK (R W : List ByteArray) (C : List Ins) (l : List Row) (rb : Option Addr) (rn rc : Nat) (wb : Option Addr) (wn wc : Nat) (cb : Option Addr) (cn cc : Nat) (lb : Option Addr) (ln lc : Nat) (w : World)
   (hd : DeedIn w rb rn rc wb wn wc cb cn cc R W C) (hright : RightD R W C) (hh : Holds w lb ln lc l) (hs : Srt l) (hn : (ln + 20) * 24 ≤ 140737488355328) :
   Calls Tryz.prog 42 #[.slice lb ln lc, .agg #[.slice rb rn rc, .slice wb wn wc, .slice cb cn cc]] w fun e w' =>
     ∃ (nb : Option Addr) (nn nc : Nat) (L : List Row) (r : Nat → Int) (m : Made) (f : Bool), exec (fun k => num k l) C 0 zeroR zeroM = (r, m, f) ∧ e = .returned (.tuple #[.slice nb nn nc, .agg #[.bool f, .int .i64 (r 0), .int .i64 (r 1), .int .i64 (r 2), .int .i64 (r 3)]]) ∧
       Holds w' nb nn nc L ∧ (f = true → L = l) ∧ (f = false → Over L l m) ∧ Below w.heap.size w w' ∧ ((nb = lb ∧ nn = ln) ∨ Kind w' 117 nb) := by
 have HD := hid hd
 have HRT := hid hright
 have HH := hid hh
 have HS := hid hs
 have HNN := hid hn
 have HN := hid (Codes.count hd.cd)
 have hc12 : cn ≤ 12 := by rw [Codes.count hd.cd]; exact hright.c
 clear hd hright hh hs hn
 go_enter Tryz.func42, Tryz.ntmps42
 go_wp2_with fail
 obtain ⟨A, hA⟩ : ∃ A, A = ((w.alloc (.cells #[.slice rb rn rc, .slice wb wn wc, .slice cb cn cc] 44)).alloc (.cells #[.bool false, .int .i64 0, .int .i64 0, .int .i64 0, .int .i64 0] 83)).alloc (.cells #[.bool false, .int .i64 0, .int .i64 0, .int .i64 0, .int .i64 0] 83) := ⟨_, rfl⟩
 rw [← hA]
 have HBA : Hid (Below w.heap.size w A) := by show Below _ _ _; rw [hA]; exact below_deep (below_deep (grew _ _) (grew _ _)) (grew _ _)
 have x2 : A.cell? ⟨w.heap.size, 2, none⟩ = some (.slice cb cn cc) := by rw [hA]; exact box_past _ (box_past _ (box_cell w _ _ 2 _ rfl))
 have xr : ∀ j, j < 5 → A.frozen? ⟨w.heap.size + 1, j, none⟩ = false ∧ ∃ u, A.cell? ⟨w.heap.size + 1, j, none⟩ = some u := by
   intro j hj
   rw [hA, World.frozen?_alloc_past _ _ _ (by simp), World.cell?_alloc_past _ _ _ (by simp), World.frozen?_alloc_at _ _ _ _ (by simp), World.cell?_alloc_at _ _ _ _ (by simp)]
   refine ⟨rfl, ?_⟩
   have : j = 0 ∨ j = 1 ∨ j = 2 ∨ j = 3 ∨ j = 4 := by omega
   rcases this with rfl | rfl | rfl | rfl | rfl <;> exact ⟨_, rfl⟩
 have HST : Hid (DK A A (w.heap.size + 1 + 1) zeroR lb ln lc l l zeroM lb ln) := by
   refine ⟨?_, HH.out.below HBA.out, Over.start HS.out, Below.refl _ _, .inl ⟨rfl, rfl⟩⟩
   have hc : ∀ j, A.cell? ⟨w.heap.size + 1 + 1, j, none⟩ = (#[Value.bool false, .int .i64 0, .int .i64 0, .int .i64 0, .int .i64 0])[j]? := fun j => by rw [hA, World.cell?_alloc_at _ _ _ _ (by simp)]
   have hf : ∀ j, A.frozen? ⟨w.heap.size + 1 + 1, j, none⟩ = false := fun j => by rw [hA, World.frozen?_alloc_at _ _ _ _ (by simp)]
   refine ⟨by rw [hc]; rfl, hf 0, fun i hi => ?_, fun i _ => hf _, fun i hi => ?_⟩
   · rw [hc]
     have : i = 0 ∨ i = 1 ∨ i = 2 ∨ i = 3 := by omega
     rcases this with rfl | rfl | rfl | rfl <;> rfl
   · rw [hc]
     exact Array.getElem?_eq_none (by simpa using hi)
 have HNT : Hid (NoText A (w.heap.size + 1)) := by
   intro o s e
   rw [hA, World.cell?_alloc_past _ _ _ (by simp), World.cell?_alloc_at _ _ _ _ (by simp)] at e
   have : o = 0 ∨ o = 1 ∨ o = 2 ∨ o = 3 ∨ o = 4 ∨ 5 ≤ o := by omega
   rcases this with rfl | rfl | rfl | rfl | rfl | h5
   · cases e
   · cases e
   · cases e
   · cases e
   · cases e
   · rw [Array.getElem?_eq_none (by simpa using h5)] at e; cases e
 have HDA := hid (HD.out.below HBA.out)
 have HXR := hid xr
 have hsA : A.heap.size = w.heap.size + 3 := by rw [hA]; simp
 clear hA xr
 go_loopw [6, 8, 18] (fun v6 v8 i wr => ∃ (k sk nn nc : Nat) (nb : Option Addr) (L : List Row) (r : Nat → Int) (m : Made), k ≤ cn ∧ sk ≤ cn ∧ v6 = .slice nb nn nc ∧ v8 = .int .i64 sk ∧ i = .int .i64 k ∧ nn ≤ ln + k ∧ Hid (exec (fun k => num k l) (C.drop k) sk r m = exec (fun k => num k l) C 0 zeroR zeroM) ∧ Hid (DK A wr (w.heap.size + 1 + 1) r nb nn nc L l m lb ln)) (fun _ _ i _ => cn - (intOf i).toNat)
 case atStart => exact ⟨0, 0, ln, lc, lb, l, zeroR, zeroM, Nat.zero_le _, Nat.zero_le _, rfl, rfl, rfl, Nat.le_refl _, rfl, HST⟩
 case round =>
   obtain ⟨k, sk, nn, nc, nb, L, r, m, hk, hskb, rfl, rfl, rfl, hnn, HE, HK⟩ := hrel
   have z2 := below_cell HK.out.old (by omega) x2
   have lb0 : w.heap.size + 1 + 1 < wr.heap.size := HK.out.fin.lt
   have lb1 : w.heap.size + 1 < wr.heap.size := by omega
   have lb2 : w.heap.size < wr.heap.size := by omega
   have HBW : Hid (Below w.heap.size w wr) := HBA.out.trans (HK.out.old.mono (by omega))
   by_cases hlt : k < cn
   · have hkl : k < C.length := by rw [← HN.out]; exact hlt
     have hi : (k : Int) < (cn : Int) := by omega
     have HI := hid (right_instr (HRT.out.i k hkl))
     rw [← HN.out] at HI
     rw [drop_at hkl] at HE
     rcases (HD.out.below HBW.out).cd.run with h | ⟨b, o, rfl, h1⟩
     · omega
     have hbw : b < wr.heap.size := h1.lt (by rw [insCells_length]; omega)
     obtain ⟨c0, c1, c2, c3, c4⟩ := Codes.cells h1 hkl
     clear h1
     rcases hx : C.getD k default with ⟨kd, a, bb, nn0, sk0⟩
     rw [hx] at c0 c1 c2 c3 c4 HI HE
     clear hx
     simp only [Ins.kind, Ins.a, Ins.b, Ins.n, Ins.key] at c0 c1 c2 c3 c4
     cases sk with
     | succ sk =>
       have HE2 : Hid (exec (fun k => num k l) (C.drop (k + 1)) sk r m = exec (fun k => num k l) C 0 zeroR zeroM) := by
         show _ = _
         rw [← HE.out]; rfl
       have hsp : (0 : Int) < (sk : Int) + 1 := by omega
       go_wp2
       go_roundw
       case rel => exact ⟨k + 1, sk, nn, nc, nb, L, r, m, by omega, by omega, rfl, by go_num, by go_num, by omega, HE2, HK.out.deep (grew _ _)⟩
       case measure => simp [intOf]; omega
     | zero =>
       obtain ⟨a, rfl⟩ : ∃ a' : Nat, a = a' := ⟨a.toNat, by have := HI.out.a0; simp [Ins.a] at this; omega⟩
       obtain ⟨bb, rfl⟩ : ∃ b' : Nat, bb = b' := ⟨bb.toNat, by have := HI.out.b0; simp [Ins.b] at this; omega⟩
       have ha : (a : Int) < 4 := by have := HI.out.a4; simpa [Ins.a] using this
       have hbb : (bb : Int) < 4 := by have := HI.out.b4; simpa [Ins.b] using this
       have ra := HK.out.fin.at_ a (by omega)
       have rbv := HK.out.fin.at_ bb (by omega)
       have hkd : kd = 1 ∨ kd = 2 ∨ kd = 3 ∨ kd = 4 ∨ kd = 5 ∨ kd = 6 ∨ kd = 7 ∨ kd = 8 ∨ kd = 9 := by
         have h1 := HI.out.lo
         have h2 := HI.out.hi
         simp only [Ins.kind] at h1 h2
         omega
       have B1 : Hid ((nn + 1) * 24 ≤ 140737488355328) := Nat.le_trans (Nat.mul_le_mul_right 24 (by omega)) HNN.out
       rcases hkd with rfl | rfl | rfl | rfl | rfl | rfl | rfl | rfl | rfl
       · have HE2 : Hid (exec (fun k => num k l) (C.drop (k + 1)) 0 (setR r a (num sk0 L)) m = exec (fun k => num k l) C 0 zeroR zeroM) := by
           show _ = _
           rw [← HE.out, HK.out.over.num_]; simp [exec, Ins.kind, Ins.a, Ins.key]
         go_wp2
         go_quiet (fail)
         rename_i nq
         have HKQ := hid (HK.out.deep (grow_box (o := .cells #[.int .i64 1, .int .i64 a, .int .i64 bb, .int .i64 nn0, .string sk0] 72) nq))
         go_wp2_with fail
         refine (refGet_calls L nb nn nc sk0 _ HK.out.over.srt HKQ.out.rows).mono ?_
         rintro e w2 ⟨rfl, hb2⟩
         have HK2 := hid (HKQ.out.deep hb2)
         have i0 := kept_cell hb2 (cell_drewN nq (box_cell wr #[.int .i64 1, .int .i64 a, .int .i64 bb, .int .i64 nn0, .string sk0] 72 0 _ rfl))
         have i1' := kept_cell hb2 (cell_drewN nq (box_cell wr #[.int .i64 1, .int .i64 a, .int .i64 bb, .int .i64 nn0, .string sk0] 72 1 _ rfl))
         clear hb2
         go_wp2_with fail
         refine (refHas_calls 1 114 _ (by decide) (by decide)).mono ?_
         rw [show letter 1 114 = true from by decide]
         rintro e w3 ⟨rfl, hb3⟩
         have HK3 := hid (HK2.out.deep hb3)
         have i1 := kept_cell hb3 (i1')
         have j1 := HK3.out.fin.at_ a (by omega)
         have j2 := HK3.out.fin.free a (by omega)
         clear hb3
         go_wp2
         go_roundw
         case rel => exact ⟨k + 1, 0, nn, nc, nb, L, _, m, by omega, by omega, rfl, rfl, by go_num, by omega, HE2, HK3.out.set (by omega) _⟩
         case measure => simp [intOf]; omega
       · have HE2 : Hid (exec (fun k => num k l) (C.drop (k + 1)) 0 (setR r a nn0) m = exec (fun k => num k l) C 0 zeroR zeroM) := by
           show _ = _
           rw [← HE.out]; simp [exec, Ins.kind, Ins.a, Ins.n]
         go_wp2
         go_quiet (fail)
         rename_i nq
         have HKQ := hid (HK.out.deep (grow_box (o := .cells #[.int .i64 2, .int .i64 a, .int .i64 bb, .int .i64 nn0, .string sk0] 72) nq))
         go_wp2_with fail
         refine (refHas_calls 2 114 _ (by decide) (by decide)).mono ?_
         rw [show letter 2 114 = true from by decide]
         rintro e w3 ⟨rfl, hb3⟩
         have HK3 := hid (HKQ.out.deep hb3)
         have i1 := kept_cell hb3 (cell_drewN nq (box_cell wr #[.int .i64 2, .int .i64 a, .int .i64 bb, .int .i64 nn0, .string sk0] 72 1 _ rfl))
         have j1 := HK3.out.fin.at_ a (by omega)
         have j2 := HK3.out.fin.free a (by omega)
         clear hb3
         go_wp2
         go_roundw
         case rel => exact ⟨k + 1, 0, nn, nc, nb, L, _, m, by omega, by omega, rfl, rfl, by go_num, by omega, HE2, HK3.out.set (by omega) _⟩
         case measure => simp [intOf]; omega
       · have HE2 : Hid (exec (fun k => num k l) (C.drop (k + 1)) 0 (setR r a (rnd (r a + r bb))) m = exec (fun k => num k l) C 0 zeroR zeroM) := by
           show _ = _
           rw [← HE.out]; simp [exec, Ins.kind, Ins.a, Ins.b]
         go_wp2
         go_quiet (fail)
         rename_i nq
         have HKQ := hid (HK.out.deep (grow_box (o := .cells #[.int .i64 3, .int .i64 a, .int .i64 bb, .int .i64 nn0, .string sk0] 72) nq))
         go_wp2_with fail
         refine (refRound_calls _ _).mono ?_
         rintro e w2 ⟨rfl, rfl⟩
         go_wp2_with fail
         refine (refHas_calls 3 114 _ (by decide) (by decide)).mono ?_
         rw [show letter 3 114 = true from by decide]
         rintro e w3 ⟨rfl, hb3⟩
         have HK3 := hid (HKQ.out.deep hb3)
         have i1 := kept_cell hb3 (cell_drewN nq (box_cell wr #[.int .i64 3, .int .i64 a, .int .i64 bb, .int .i64 nn0, .string sk0] 72 1 _ rfl))
         have j1 := HK3.out.fin.at_ a (by omega)
         have j2 := HK3.out.fin.free a (by omega)
         clear hb3
         go_wp2
         go_roundw
         case rel => exact ⟨k + 1, 0, nn, nc, nb, L, _, m, by omega, by omega, rfl, rfl, by go_num, by omega, HE2, HK3.out.set (by omega) _⟩
         case measure => simp [intOf]; omega
       · have HE2 : Hid (exec (fun k => num k l) (C.drop (k + 1)) 0 (setR r a (rnd (r a - r bb))) m = exec (fun k => num k l) C 0 zeroR zeroM) := by
           show _ = _
           rw [← HE.out]; simp [exec, Ins.kind, Ins.a, Ins.b]
         go_wp2
         go_quiet (fail)
         rename_i nq
         have HKQ := hid (HK.out.deep (grow_box (o := .cells #[.int .i64 4, .int .i64 a, .int .i64 bb, .int .i64 nn0, .string sk0] 72) nq))
         go_wp2_with fail
         refine (refRound_calls _ _).mono ?_
         rintro e w2 ⟨rfl, rfl⟩
         go_wp2_with fail
         refine (refHas_calls 4 114 _ (by decide) (by decide)).mono ?_
         rw [show letter 4 114 = true from by decide]
         rintro e w3 ⟨rfl, hb3⟩
         have HK3 := hid (HKQ.out.deep hb3)
         have i1 := kept_cell hb3 (cell_drewN nq (box_cell wr #[.int .i64 4, .int .i64 a, .int .i64 bb, .int .i64 nn0, .string sk0] 72 1 _ rfl))
         have j1 := HK3.out.fin.at_ a (by omega)
         have j2 := HK3.out.fin.free a (by omega)
         clear hb3
         go_wp2
         go_roundw
         case rel => exact ⟨k + 1, 0, nn, nc, nb, L, _, m, by omega, by omega, rfl, rfl, by go_num, by omega, HE2, HK3.out.set (by omega) _⟩
         case measure => simp [intOf]; omega
       · have HE2 : Hid (exec (fun k => num k l) (C.drop (k + 1)) 0 (setR r a (rnd (r a * r bb))) m = exec (fun k => num k l) C 0 zeroR zeroM) := by
           show _ = _
           rw [← HE.out]; simp [exec, Ins.kind, Ins.a, Ins.b]
         go_wp2
         go_quiet (fail)
         rename_i nq
         have HKQ := hid (HK.out.deep (grow_box (o := .cells #[.int .i64 5, .int .i64 a, .int .i64 bb, .int .i64 nn0, .string sk0] 72) nq))
         go_wp2_with fail
         refine (refRound_calls _ _).mono ?_
         rintro e w2 ⟨rfl, rfl⟩
         go_wp2_with fail
         refine (refHas_calls 5 114 _ (by decide) (by decide)).mono ?_
         rw [show letter 5 114 = true from by decide]
         rintro e w3 ⟨rfl, hb3⟩
         have HK3 := hid (HKQ.out.deep hb3)
         have i1 := kept_cell hb3 (cell_drewN nq (box_cell wr #[.int .i64 5, .int .i64 a, .int .i64 bb, .int .i64 nn0, .string sk0] 72 1 _ rfl))
         have j1 := HK3.out.fin.at_ a (by omega)
         have j2 := HK3.out.fin.free a (by omega)
         clear hb3
         go_wp2
         go_roundw
         case rel => exact ⟨k + 1, 0, nn, nc, nb, L, _, m, by omega, by omega, rfl, rfl, by go_num, by omega, HE2, HK3.out.set (by omega) _⟩
         case measure => simp [intOf]; omega
       · have HE2 : Hid (exec (fun k => num k l) (C.drop (k + 1)) 0 r (setM m sk0 (some (r a))) = exec (fun k => num k l) C 0 zeroR zeroM) := by
           show _ = _
           rw [← HE.out]; simp [exec, Ins.kind, Ins.a, Ins.key]
         go_wp2
         go_quiet (fail)
         rename_i nq
         have HKQ := hid (HK.out.deep (grow_box (o := .cells #[.int .i64 6, .int .i64 a, .int .i64 bb, .int .i64 nn0, .string sk0] 72) nq))
         go_wp2_with fail
         refine (refPut_trueK L nb nn nc sk0 (r a) _ B1.out HK.out.over.srt HKQ.out.rows).mono ?_
         rintro e w2 ⟨nb2, nn2, nc2, rfl, hr2, hb2, hk2⟩
         have HK2 := hid ((HKQ.out.deep hb2).turn (show Holds w2 nb2 nn2 nc2 (ins sk0 (r a) L) from hr2) (HK.out.over.ins sk0 (r a)) hk2)
         have hl2 : nn2 ≤ nn + 1 := by
           have h1 := hr2.len
           have h2 := HK.out.rows.len
           have h3 := ins_length sk0 (r a) L
           have h4 : nn2 = (ins sk0 (r a) L).length := h1
           omega
         have i0 := kept_cell hb2 (cell_drewN nq (box_cell wr #[.int .i64 6, .int .i64 a, .int .i64 bb, .int .i64 nn0, .string sk0] 72 0 _ rfl))
         have i1' := kept_cell hb2 (cell_drewN nq (box_cell wr #[.int .i64 6, .int .i64 a, .int .i64 bb, .int .i64 nn0, .string sk0] 72 1 _ rfl))
         clear hb2 hr2
         go_wp2_with fail
         refine (refHas_calls 6 114 _ (by decide) (by decide)).mono ?_
         rw [show letter 6 114 = true from by decide]
         rintro e w3 ⟨rfl, hb3⟩
         have HK3 := hid (HK2.out.deep hb3)
         have i1 := kept_cell hb3 (i1')
         have j1 := HK3.out.fin.at_ a (by omega)
         have j2 := HK3.out.fin.free a (by omega)
         clear hb3
         go_wp2
         go_roundw
         case rel => exact ⟨k + 1, 0, nn2, nc2, nb2, _, r, _, by omega, by omega, rfl, rfl, by go_num, by omega, HE2, HK3.out.same (by omega)⟩
         case measure => simp [intOf]; omega
       · have HE2 : Hid (exec (fun k => num k l) (C.drop (k + 1)) 0 r (setM m sk0 none) = exec (fun k => num k l) C 0 zeroR zeroM) := by
           show _ = _
           rw [← HE.out]; simp [exec, Ins.kind, Ins.key]
         go_wp2
         go_quiet (fail)
         rename_i nq
         have HKQ := hid (HK.out.deep (grow_box (o := .cells #[.int .i64 7, .int .i64 a, .int .i64 bb, .int .i64 nn0, .string sk0] 72) nq))
         go_wp2_with fail
         refine (refPut_falseK L nb nn nc sk0 0 _ B1.out HK.out.over.srt HKQ.out.rows).mono ?_
         rintro e w2 ⟨nb2, nn2, nc2, rfl, hr2, hb2, hk2⟩
         have HK2 := hid ((HKQ.out.deep hb2).turn (show Holds w2 nb2 nn2 nc2 (del sk0 L) from hr2) (HK.out.over.del sk0) hk2)
         have hl2 : nn2 ≤ nn := by
           have h2 := HK.out.rows.len
           have h3 := del_length sk0 L
           have h4 : nn2 = (del sk0 L).length := hr2.len
           omega
         have i0 := kept_cell hb2 (cell_drewN nq (box_cell wr #[.int .i64 7, .int .i64 a, .int .i64 bb, .int .i64 nn0, .string sk0] 72 0 _ rfl))
         clear hb2 hr2
         go_wp2_with fail
         refine (refHas_calls 7 114 _ (by decide) (by decide)).mono ?_
         rw [show letter 7 114 = false from by decide]
         rintro e w3 ⟨rfl, hb3⟩
         have HK3 := hid (HK2.out.deep hb3)
         clear hb3
         go_wp2
         go_roundw
         case rel => exact ⟨k + 1, 0, nn2, nc2, nb2, _, r, _, by omega, by omega, rfl, rfl, by go_num, by omega, HE2, HK3⟩
         case measure => simp [intOf]; omega
       · have HE2 : Hid (exec (fun k => num k l) (C.drop (k + 1)) (if r a ≤ 0 then nn0.toNat else 0) r m = exec (fun k => num k l) C 0 zeroR zeroM) := by
           show _ = _
           rw [← HE.out]; simp [exec, Ins.kind, Ins.a, Ins.n]
         have hsk := HI.out.skip rfl
         simp only [Ins.n] at hsk
         by_cases h0 : r a < 1
         · rw [if_pos (by omega)] at HE2
           obtain ⟨nn0, rfl⟩ : ∃ n' : Nat, nn0 = n' := ⟨nn0.toNat, by omega⟩
           rw [Int.toNat_natCast] at HE2
           go_wp2
           go_quiet (fail)
           rename_i nq
           have HKQ := hid (HK.out.deep (grow_box (o := .cells #[.int .i64 8, .int .i64 a, .int .i64 bb, .int .i64 nn0, .string sk0] 72) nq))
           go_wp2_with fail
           refine (refHas_calls 8 114 _ (by decide) (by decide)).mono ?_
           rw [show letter 8 114 = true from by decide]
           rintro e w3 ⟨rfl, hb3⟩
           have HK3 := hid (HKQ.out.deep hb3)
           have i1 := kept_cell hb3 (cell_drewN nq (box_cell wr #[.int .i64 8, .int .i64 a, .int .i64 bb, .int .i64 nn0, .string sk0] 72 1 _ rfl))
           have j1 := HK3.out.fin.at_ a (by omega)
           have j2 := HK3.out.fin.free a (by omega)
           clear hb3
           go_wp2
           go_roundw
           case rel => exact ⟨k + 1, nn0, nn, nc, nb, L, r, m, by omega, by omega, rfl, rfl, by go_num, by omega, HE2, HK3.out.same (by omega)⟩
           case measure => simp [intOf]; omega
         · rw [if_neg (by omega)] at HE2
           go_wp2
           go_quiet (fail)
           rename_i nq
           have HKQ := hid (HK.out.deep (grow_box (o := .cells #[.int .i64 8, .int .i64 a, .int .i64 bb, .int .i64 nn0, .string sk0] 72) nq))
           go_wp2_with fail
           refine (refHas_calls 8 114 _ (by decide) (by decide)).mono ?_
           rw [show letter 8 114 = true from by decide]
           rintro e w3 ⟨rfl, hb3⟩
           have HK3 := hid (HKQ.out.deep hb3)
           have i1 := kept_cell hb3 (cell_drewN nq (box_cell wr #[.int .i64 8, .int .i64 a, .int .i64 bb, .int .i64 nn0, .string sk0] 72 1 _ rfl))
           have j1 := HK3.out.fin.at_ a (by omega)
           have j2 := HK3.out.fin.free a (by omega)
           clear hb3
           go_wp2
           go_roundw
           case rel => exact ⟨k + 1, 0, nn, nc, nb, L, r, m, by omega, by omega, rfl, rfl, by go_num, by omega, HE2, HK3.out.same (by omega)⟩
           case measure => simp [intOf]; omega
       · have HDM : Hid True := trivial
         clear HDM
         by_cases h0 : r a < 0
         · have HE2 : Hid (exec (fun k => num k l) C 0 zeroR zeroM = (r, m, true)) := by
             show _ = _
             rw [← HE.out]; simp [exec, Ins.kind, Ins.a, h0]
           have d0 := HK.out.fin.at_ 0 (by decide)
           have d1 := HK.out.fin.at_ 1 (by decide)
           have d2 := HK.out.fin.at_ 2 (by decide)
           have d3 := HK.out.fin.at_ 3 (by decide)
           have g0 := HK.out.fin.no
           have g1 := HK.out.fin.nofree
           have HZR : Hid (∀ j, j < 5 → wr.frozen? ⟨w.heap.size + 1, j, none⟩ = false ∧ ∃ u, wr.cell? ⟨w.heap.size + 1, j, none⟩ = some u) := fun j hj => by
             obtain ⟨h1, u, h2⟩ := HXR.out j hj
             rw [HK.out.old.frozen (p := ⟨w.heap.size + 1, j, none⟩) (by simp), HK.out.old.cell (p := ⟨w.heap.size + 1, j, none⟩) (by simp)]
             exact ⟨h1, u, h2⟩
           obtain ⟨f0, t0, e0⟩ := HZR.out 0 (by decide)
           obtain ⟨f1, t1, e1⟩ := HZR.out 1 (by decide)
           obtain ⟨f2, t2, e2⟩ := HZR.out 2 (by decide)
           obtain ⟨f3, t3, e3⟩ := HZR.out 3 (by decide)
           obtain ⟨f4, t4, e4⟩ := HZR.out 4 (by decide)
           go_wp2
           go_quiet (fail)
           go_wp2
           go_region
           go_wp2
           (try simp only [Exit.inBlock, Exit.then])
           refine bodyPost_ret (do_results _ (w.heap.size + 1) _ rfl (five_drew (five_cells (fun j hj => ?_)))) rfl ?_
           · obtain ⟨u, hu⟩ := result_box HZR.out j hj
             exact ⟨u, by rw [World.cell?_setCell_far _ _ _ _ (by simp)]; exact hu⟩
           · have HBF := (five_below (b := w.heap.size + 1) true (r 0) (r 1) (r 2) (r 3) (by omega) ((below_deep HBW.out (grow_box (o := .cells #[.int .i64 9, .int .i64 a, .int .i64 bb, .int .i64 nn0, .string sk0] 72) nq)).setCell (p := ⟨w.heap.size + 1 + 1, 0, none⟩) (by simp; omega) (.bool true))).drew
             exact ⟨lb, ln, lc, l, r, m, true, HE2.out, rfl, HH.out.below HBF, fun _ => rfl, (fun h => by cases h), HBF, .inl ⟨rfl, rfl⟩⟩
         · have HE2 : Hid (exec (fun k => num k l) (C.drop (k + 1)) 0 r m = exec (fun k => num k l) C 0 zeroR zeroM) := by
             show _ = _
             rw [← HE.out]; simp [exec, Ins.kind, Ins.a, h0]
           go_wp2
           go_quiet (fail)
           rename_i nq
           have HKQ := hid (HK.out.deep (grow_box (o := .cells #[.int .i64 9, .int .i64 a, .int .i64 bb, .int .i64 nn0, .string sk0] 72) nq))
           go_wp2_with fail
           refine (refHas_calls 9 114 _ (by decide) (by decide)).mono ?_
           rw [show letter 9 114 = true from by decide]
           rintro e w3 ⟨rfl, hb3⟩
           have HK3 := hid (HKQ.out.deep hb3)
           have i1 := kept_cell hb3 (cell_drewN nq (box_cell wr #[.int .i64 9, .int .i64 a, .int .i64 bb, .int .i64 nn0, .string sk0] 72 1 _ rfl))
           have j1 := HK3.out.fin.at_ a (by omega)
           have j2 := HK3.out.fin.free a (by omega)
           clear hb3
           go_wp2
           go_roundw
           case rel => exact ⟨k + 1, 0, nn, nc, nb, L, r, m, by omega, by omega, rfl, rfl, by go_num, by omega, HE2, HK3.out.same (by omega)⟩
           case measure => simp [intOf]; omega
   · obtain rfl : k = cn := by omega
     have HE2 : Hid (exec (fun k => num k l) C 0 zeroR zeroM = (r, m, false)) := by
       show _ = _
       rw [← HE.out, List.drop_eq_nil_of_le (by rw [← HN.out]; exact Nat.le_refl _)]; cases sk <;> rfl
     have d0 := HK.out.fin.at_ 0 (by decide)
     have d1 := HK.out.fin.at_ 1 (by decide)
     have d2 := HK.out.fin.at_ 2 (by decide)
     have d3 := HK.out.fin.at_ 3 (by decide)
     have g0 := HK.out.fin.no
     have HZR : Hid (∀ j, j < 5 → wr.frozen? ⟨w.heap.size + 1, j, none⟩ = false ∧ ∃ u, wr.cell? ⟨w.heap.size + 1, j, none⟩ = some u) := fun j hj => by
       obtain ⟨h1, u, h2⟩ := HXR.out j hj
       rw [HK.out.old.frozen (p := ⟨w.heap.size + 1, j, none⟩) (by simp), HK.out.old.cell (p := ⟨w.heap.size + 1, j, none⟩) (by simp)]
       exact ⟨h1, u, h2⟩
     obtain ⟨f0, t0, e0⟩ := HZR.out 0 (by decide)
     obtain ⟨f1, t1, e1⟩ := HZR.out 1 (by decide)
     obtain ⟨f2, t2, e2⟩ := HZR.out 2 (by decide)
     obtain ⟨f3, t3, e3⟩ := HZR.out 3 (by decide)
     obtain ⟨f4, t4, e4⟩ := HZR.out 4 (by decide)
     have HNW : Hid (NoText wr (w.heap.size + 1)) := fun o s e => by
       rw [HK.out.old.cell (p := ⟨w.heap.size + 1, o, none⟩) (by simp)] at e; exact HNT.out o s e
     go_wp2
     go_region
     go_wp2
     (try simp only [Exit.inBlock, Exit.then])
     refine bodyPost_ret (do_results _ (w.heap.size + 1) _ rfl (five_drew (five_cells (fun j hj => (HZR.out j hj).2)))) rfl ?_
     exact ⟨nb, nn, nc, L, r, m, false, HE2.out, rfl, (five_holds HK.out.rows HNW.out (fun j hj => (HZR.out j hj).2)).below (Below.refl _ _).drew, (fun h => by cases h), fun _ => HK.out.over, (five_below _ _ _ _ _ (by omega) HBW.out).drew, HK.out.kind.imp id (fun k => (five_kind k).below (Below.refl _ _).drew)⟩
end Go.Proofs.YtlhaeeenkgkdaaaGreatDoor
