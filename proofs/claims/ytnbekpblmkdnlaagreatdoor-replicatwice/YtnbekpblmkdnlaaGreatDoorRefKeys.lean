/-
  find, below, lastBelow and ownVersions of the program: the place of a key in chains that rise, how many versions are ahead of a deed, the last one of them, and a copy of versions.
  Own of the program: a copy of chains, that shares no memory with them.
  The document's own Keys of a deed, walked.
-/
import Derived.Test.YtnbekpblmkdnlaaGreatDoorDeedRun
import Derived.Test.YtnbekpblmkdnlaaGreatDoorChainFind
import Derived.Test.YtnbekpblmkdnlaaGreatDoorSearch
import Derived.Test.YtnbekpblmkdnlaaGreatDoorRefPut
import Derived.Deep.RegionHeld3
namespace Go.Proofs.YtnbekpblmkdnlaaGreatDoor
open Go.RowKit

theorem versClo_in : Entered 119 := fun _ _ => by kernel_rfl
theorem keyClo_in : Entered 128 := fun _ _ => by kernel_rfl

set_option maxHeartbeats 400000 in
theorem versClo_calls (b o n c bx bk i : Nat) (y by_ : Int) (W : World) (hi : i < n) (ha : W.cell? ⟨bx, 0, none⟩ = some (.slice (some ⟨b, o, none⟩) n c))
   (hk : W.cell? ⟨bk, 0, none⟩ = some (.int .i64 by_)) (hc : W.cell? ⟨b, o + i * 4, none⟩ = some (.int .i64 y)) :
   Calls Tryz.prog 119 #[.int .i64 i, .pointer (some ⟨bx, 0, none⟩), .pointer (some ⟨bk, 0, none⟩)] W fun e w' => e = .returned (.bool (decide (by_ ≤ y))) ∧ ∃ q, w' = W.drewN q := by
 have hiz : (i : Int) < (n : Int) := by omega
 go_enter Tryz.func119, Tryz.ntmps119
 go_wp2
 go_quiet (fail)
 go_wp2
 go_ret
 exact ⟨rfl, _, rfl⟩

set_option maxHeartbeats 400000 in
theorem keyClo_calls (b o n c bx bk i : Nat) (ki k : ByteArray) (W : World) (hi : i < n) (ha : W.cell? ⟨bx, 0, none⟩ = some (.slice (some ⟨b, o, none⟩) n c))
   (hk : W.cell? ⟨bk, 0, none⟩ = some (.string k)) (hc : W.cell? ⟨b, o + i * 2, none⟩ = some (.string ki)) :
   Calls Tryz.prog 128 #[.int .i64 i, .pointer (some ⟨bx, 0, none⟩), .pointer (some ⟨bk, 0, none⟩)] W fun e w' => e = .returned (.bool (!less ki k)) ∧ ∃ q, w' = W.drewN q := by
 have hiz : (i : Int) < (n : Int) := by omega
 go_enter Tryz.func128, Tryz.ntmps128
 go_wp2
 go_quiet (fail)
 go_wp2
 go_ret
 exact ⟨rfl, _, rfl⟩

theorem two_boxes (w : World) (x y : Value) (t u : TypeId) : Below w.heap.size w ((w.alloc (.cells #[x] t)).alloc (.cells #[y] u)) ∧ ((w.alloc (.cells #[x] t)).alloc (.cells #[y] u)).cell? ⟨w.heap.size, 0, none⟩ = some x ∧ ((w.alloc (.cells #[x] t)).alloc (.cells #[y] u)).cell? ⟨w.heap.size + 1, 0, none⟩ = some y := by
 refine ⟨((Below.refl _ _).alloc (Nat.le_refl _) _).alloc (by simp) _, cell_past _ (cell_box _ _ _), ?_⟩
 have := cell_box (w.alloc (.cells #[x] t)) y u
 rw [World.size_alloc] at this
 exact this

set_option maxHeartbeats 1000000 in
theorem below_calls (l : List Ver) (base : Option Addr) (n c : Nat) (by_ : Int) (w : World) (hn : n < 4611686018427387904) (hr : Rise l) (ha : Vers w base n c l) :
   Calls Tryz.prog 98 #[.slice base n c, .int .i64 by_] w fun e w' => e = .returned (.int .i64 (belV by_ l)) ∧ Below w.heap.size w w' := by
 have hmf : ∀ (fn : Fn) (first cap : Array Value) (w : World), (Instr.makeFunc fn first cap).run Tryz.prog w = .ok (.func fn first cap) w := fun _ _ _ _ => rfl
 have HN := hid (Vers.count ha)
 obtain ⟨W, hW⟩ : ∃ W, W = (w.alloc (.cells #[.slice base n c] 116)).alloc (.cells #[.int .i64 by_] 3) := ⟨_, rfl⟩
 obtain ⟨hbel, ca, ck⟩ := two_boxes w (.slice base n c) (.int .i64 by_) 116 3
 rw [← hW] at hbel ca ck
 have hV := ha.below (by decide) hbel
 have HS := hid (searchF_calls 119 #[.pointer (some ⟨w.heap.size, 0, none⟩), .pointer (some ⟨w.heap.size + 1, 0, none⟩)] n (fun i => decide (by_ ≤ (l.getD i default).by_)) W versClo_in hn
   (fun m i hi => by
     rcases hV.run with h | ⟨b, o, rfl, hrun⟩
     · omega
     obtain ⟨c0, _⟩ := Vers.cells hrun (i := i) (by rw [← HN.out]; exact hi)
     exact (versClo_calls b o n c w.heap.size (w.heap.size + 1) i _ by_ (W.drewN m) hi (cell_drewN m ca) (cell_drewN m ck) (cell_drewN m c0)).mono fun e w' ⟨he, q, hq⟩ => ⟨he, m + q, by rw [hq, World.drewN_drewN]⟩)
   (fun x y hxy hy hx => by
     by_cases e : x = y
     · subst e; exact hx
     · have h2 := rise_lt hr (i := x) (j := y) (by omega) (by rw [← HN.out]; exact hy)
       simp only [decide_eq_true_eq] at hx ⊢
       omega))
 have HB := hid hbel
 clear ca ck hbel hV ha hr
 subst hW
 go_enter Tryz.func98, Tryz.ntmps98
 go_wp2_with fail
 refine HS.out.mono ?_
 rintro e w' ⟨m, rfl, hm, f1, f2, q, rfl⟩
 have hpos : m = belV by_ l := belV_is (by rw [← HN.out]; exact hm) (fun t ht => by have := f1 t ht; simp only [decide_eq_false_iff_not] at this; omega)
   (fun h => by have := f2 m (Nat.le_refl _) (by rw [HN.out]; exact h); simp only [decide_eq_true_eq] at this; omega)
 have HP := hid hpos
 clear hpos f1 f2
 go_wp2
 go_ret
 exact ⟨ret_int (show ((m : Nat) : Int) = ((belV by_ l : Nat) : Int) by rw [HP.out]), below_drewN HB.out _⟩

set_option maxHeartbeats 1000000 in
theorem findC_calls (L : List Chn) (base : Option Addr) (n c : Nat) (k : ByteArray) (w : World) (hn : n < 4611686018427387904) (hs : SrtC L) (ha : ChainsIn w base n c L) :
   Calls Tryz.prog 105 #[.slice base n c, .string k] w fun e w' => e = .returned (.tuple #[.int .i64 (posC k L), .bool (isAtC k L)]) ∧ Below w.heap.size w w' := by
 have hmf : ∀ (fn : Fn) (first cap : Array Value) (w : World), (Instr.makeFunc fn first cap).run Tryz.prog w = .ok (.func fn first cap) w := fun _ _ _ _ => rfl
 have HN := hid ha.len
 obtain ⟨W, hW⟩ : ∃ W, W = (w.alloc (.cells #[.slice base n c] 30)).alloc (.cells #[.string k] 9) := ⟨_, rfl⟩
 obtain ⟨hbel, ca, ck⟩ := two_boxes w (.slice base n c) (.string k) 30 9
 rw [← hW] at hbel ca ck
 have hV := ha.below hbel
 have HS := hid (searchF_calls 128 #[.pointer (some ⟨w.heap.size, 0, none⟩), .pointer (some ⟨w.heap.size + 1, 0, none⟩)] n (fun i => !less (L.getD i default).1 k) W keyClo_in hn
   (fun m i hi => by
     rcases hV.run with h | ⟨b, o, rfl, hrun⟩
     · omega
     obtain ⟨vb, vn, vc, c0, _⟩ := hrun i hi
     exact (keyClo_calls b o n c w.heap.size (w.heap.size + 1) i _ k (W.drewN m) hi (cell_drewN m ca) (cell_drewN m ck) (cell_drewN m c0)).mono fun e w' ⟨he, q, hq⟩ => ⟨he, m + q, by rw [hq, World.drewN_drewN]⟩)
   (fun x y hxy hy hx => by
     by_cases e : x = y
     · subst e; exact hx
     · have h2 := srtC_lt hs (i := x) (j := y) (by omega) (by rw [← HN.out]; exact hy)
       cases h3 : less (L.getD y default).1 k with
       | false => rfl
       | true => rw [less_trans h2 h3] at hx; exact hx))
 have HB := hid hbel
 have HV := hid hV
 have HAT : Hid (isAtC k L = (decide (posC k L < L.length) && decide ((L.getD (posC k L) default).1 = k))) := rfl
 clear ca ck hbel hV ha hs
 subst hW
 go_enter Tryz.func105, Tryz.ntmps105
 go_wp2_with fail
 refine HS.out.mono ?_
 rintro e w' ⟨m, rfl, hm, f1, f2, q, rfl⟩
 have hpos : m = posC k L := posC_is (by rw [← HN.out]; exact hm) (fun t ht => by simpa using f1 t ht) (fun h => by simpa using f2 m (Nat.le_refl _) (by rw [HN.out]; exact h))
 rw [← hpos, ← HN.out] at HAT
 have HP := hid hpos
 clear hpos f1 f2 HS
 by_cases hlt : m < n
 · have hdec : decide ((m : Int) < (n : Int)) = true := by simp; omega
   have hi : (m : Int) < (n : Int) := by omega
   rcases HV.out.run with h | ⟨b, o, rfl, hrun⟩
   · omega
   obtain ⟨vb, vn, vc, c0, _⟩ := hrun m hlt
   have hbw : b < w.heap.size + 1 + 1 := by simpa using World.block_lt_of_cell? _ _ c0
   clear hrun
   generalize (L.getD m default).1 = kk at *
   go_wp2
   go_quiet (fail)
   go_wp2
   go_ret2
   refine ⟨?_, below_drewN (below_drewN HB.out _) _⟩
   rw [HAT.out, ← HP.out]
   by_cases e : kk = k
   · simp [hlt, e]
   · have : ¬ kk.toList = k.toList := fun h => e (toList_inj h)
     simp [hlt, e, this]
 · have hdec : decide ((m : Int) < (n : Int)) = false := by simp; omega
   go_wp2
   go_quiet (fail)
   go_wp2
   go_ret2
   refine ⟨?_, below_drewN (below_drewN HB.out _) _⟩
   rw [HAT.out, ← HP.out]
   simp [hlt]

structure Four (w : World) (b : Nat) (y : Int) (m h : Bool) (x : Int) : Prop where
 c0 : w.cell? ⟨b, 0, none⟩ = some (.int .i64 y)
 c1 : w.cell? ⟨b, 1, none⟩ = some (.bool m)
 c2 : w.cell? ⟨b, 2, none⟩ = some (.bool h)
 c3 : w.cell? ⟨b, 3, none⟩ = some (.int .i64 x)
theorem Four.below {w w' : World} {b : Nat} {y : Int} {m h : Bool} {x : Int} (k : Four w b y m h x) (hb : Below w.heap.size w w') : Four w' b y m h x := ⟨kept_cell hb k.c0, kept_cell hb k.c1, kept_cell hb k.c2, kept_cell hb k.c3⟩
theorem Four.lt {w : World} {b : Nat} {y : Int} {m h : Bool} {x : Int} (k : Four w b y m h x) : b < w.heap.size := by simpa using World.block_lt_of_cell? _ _ k.c0
theorem Four.box (w : World) (y : Int) (m h : Bool) (x : Int) (t : TypeId) : Four (w.alloc (.cells #[.int .i64 y, .bool m, .bool h, .int .i64 x] t)) w.heap.size y m h x :=
 ⟨box_cell _ _ _ 0 _ rfl, box_cell _ _ _ 1 _ rfl, box_cell _ _ _ 2 _ rfl, box_cell _ _ _ 3 _ rfl⟩
theorem Four.put {w : World} {b : Nat} {y : Int} {m h : Bool} {x : Int} (k : Four w b y m h x) (y' : Int) (m' h' : Bool) (x' : Int) :
   Four ((((w.setCell ⟨b, 0, none⟩ (.int .i64 y')).setCell ⟨b, 1, none⟩ (.bool m')).setCell ⟨b, 2, none⟩ (.bool h')).setCell ⟨b, 3, none⟩ (.int .i64 x')) b y' m' h' x' := by
 refine ⟨?_, ?_, ?_, ?_⟩
 · rw [set_off (by decide), set_off (by decide), set_off (by decide)]
   exact World.cell?_setCell_same _ _ _ k.c0
 · rw [set_off (by decide), set_off (by decide)]
   exact World.cell?_setCell_same _ _ _ (by rw [set_off (by decide)]; exact k.c1)
 · rw [set_off (by decide)]
   exact World.cell?_setCell_same _ _ _ (by rw [set_off (by decide), set_off (by decide)]; exact k.c2)
 · exact World.cell?_setCell_same _ _ _ (by rw [set_off (by decide), set_off (by decide), set_off (by decide)]; exact k.c3)
theorem four_below {w w' : World} {B b : Nat} {u0 u1 u2 u3 : Value} (h : Below B w w') (hb : B ≤ b) : Below B w ((((w'.setCell ⟨b, 0, none⟩ u0).setCell ⟨b, 1, none⟩ u1).setCell ⟨b, 2, none⟩ u2).setCell ⟨b, 3, none⟩ u3) :=
 (((h.setCell (p := ⟨b, 0, none⟩) hb _).setCell (p := ⟨b, 1, none⟩) hb _).setCell (p := ⟨b, 2, none⟩) hb _).setCell (p := ⟨b, 3, none⟩) hb _
structure Free4 (w : World) (b : Nat) : Prop where
 f0 : w.frozen? ⟨b, 0, none⟩ = false
 f1 : w.frozen? ⟨b, 1, none⟩ = false
 f2 : w.frozen? ⟨b, 2, none⟩ = false
 f3 : w.frozen? ⟨b, 3, none⟩ = false
theorem Free4.box (w : World) (vs : Array Value) (t : TypeId) : Free4 (w.alloc (.cells vs t)) w.heap.size :=
 ⟨World.frozen?_alloc_at _ _ _ _ rfl, World.frozen?_alloc_at _ _ _ _ rfl, World.frozen?_alloc_at _ _ _ _ rfl, World.frozen?_alloc_at _ _ _ _ rfl⟩
theorem Free4.below {w w' : World} {b : Nat} (h : Free4 w b) (hb : Below w.heap.size w w') (hlt : b < w.heap.size) : Free4 w' b :=
 ⟨kept_free hb ⟨hlt, h.f0⟩, kept_free hb ⟨hlt, h.f1⟩, kept_free hb ⟨hlt, h.f2⟩, kept_free hb ⟨hlt, h.f3⟩⟩
theorem last_results (tmps : Array Value) (b : Nat) (w : World) {y : Int} {m h : Bool} {x : Int} (h4 : tmps.getD 4 undef = .pointer (some ⟨b, 0, none⟩)) (k : Four w b y m h x) :
   (results Tryz.f83 tmps).run Tryz.prog w = .ok (.agg #[.int .i64 y, .bool m, .bool h, .int .i64 x]) w := by
 have h4' : tmps[4]?.getD undef = .pointer (some ⟨b, 0, none⟩) := by simpa using h4
 simp [results, Tryz.results83, go_sem, h4', k.c0, k.c1, k.c2, k.c3]
theorem before_results (tmps : Array Value) (b : Nat) (w : World) {y : Int} {m h : Bool} {x : Int} (h4 : tmps.getD 6 undef = .pointer (some ⟨b, 0, none⟩)) (k : Four w b y m h x) :
   (results Tryz.f88 tmps).run Tryz.prog w = .ok (.agg #[.int .i64 y, .bool m, .bool h, .int .i64 x]) w := by
 have h4' : tmps[6]?.getD undef = .pointer (some ⟨b, 0, none⟩) := by simpa using h4
 simp [results, Tryz.results88, go_sem, h4', k.c0, k.c1, k.c2, k.c3]

def VerTold (w w' : World) (v : Ver) (e : Ending) : Prop := ∃ (y : Int) (m h : Bool) (x : Int), v = (y, m, h, x) ∧ e = .returned (.agg #[.int .i64 y, .bool m, .bool h, .int .i64 x]) ∧ Below w.heap.size w w'

set_option maxHeartbeats 1000000 in
theorem lastBelow_calls (l : List Ver) (base : Option Addr) (n c : Nat) (by_ : Int) (w : World) (hn : n < 4611686018427387904) (hr : Rise l) (ha : Vers w base n c l) :
   Calls Tryz.prog 83 #[.slice base n c, .int .i64 by_] w fun e w' => VerTold w w' (befV by_ l ver0) e := by
 have HG := hid (grew w (.cells #[.int .i64 0, .bool false, .bool false, .int .i64 0] 93))
 have HBC := hid (below_calls l base n c by_ _ hn hr (ha.below (by decide) HG.out))
 have HE := hid (befV_bel (by_ := by_) ver0 hr)
 have hle := belV_le by_ l
 rw [← Vers.count ha] at hle
 have HV := hid (ha.below (by decide) HG.out)
 have HN := hid (Vers.count ha)
 clear ha hr
 generalize belV by_ l = m at *
 go_enter Tryz.func83, Tryz.ntmps83
 go_wp2_with fail
 refine HBC.out.mono ?_
 rintro e w1 ⟨rfl, hb⟩
 have hfo := (Four.box w 0 false false 0 93).below hb
 have hfr := (Free4.box w #[.int .i64 0, .bool false, .bool false, .int .i64 0] 93).below hb (by simp)
 have HFO := hid hfo
 obtain ⟨g0, g1, g2, g3⟩ := hfo
 obtain ⟨f0, f1, f2, f3⟩ := hfr
 have HV1 := hid (HV.out.below (by decide) hb)
 have HB := hid (below_deep HG.out hb)
 have hlt : w.heap.size < w1.heap.size := by simpa using World.block_lt_of_cell? _ _ g0
 clear hb HBC
 cases m with
 | zero =>
   have HE0 : Hid (befV by_ l ver0 = (-1, true, false, 0)) := by show _ = _; rw [HE.out]; rfl
   go_wp2
   (try simp only [Exit.inBlock, Exit.then])
   refine bodyPost_ret (last_results _ w.heap.size _ rfl (HFO.out.put _ _ _ _)) rfl ?_
   exact ⟨_, _, _, _, HE0.out, rfl, four_below HB.out (Nat.le_refl _)⟩
 | succ m =>
   rcases HV1.out.run with h | ⟨b, o, rfl, hrun⟩
   · omega
   obtain ⟨c0, c1, c2, c3⟩ := Vers.cells hrun (i := m) (by rw [← HN.out]; omega)
   have hbw : b < w1.heap.size := by simpa using World.block_lt_of_cell? _ _ c0
   have HE0 : Hid (befV by_ l ver0 = l.getD m default) := by show _ = _; rw [HE.out]; rfl
   clear hrun
   rcases hx : l.getD m default with ⟨y, mm, hh, x⟩
   rw [hx] at c0 c1 c2 c3 HE0
   simp only [Ver.by_, Ver.made, Ver.has_, Ver.n] at c0 c1 c2 c3
   clear hx
   have hwr : IntKind.i64.wrap (m : Int) = (m : Int) := by rw [IntKind.wrap_i64]; omega
   have hi : (m : Int) < (n : Int) := by omega
   go_wp2
   (try simp only [Exit.inBlock, Exit.then])
   refine bodyPost_ret (last_results _ w.heap.size _ rfl (HFO.out.put _ _ _ _)) rfl ?_
   exact ⟨_, _, _, _, HE0.out, rfl, four_below HB.out (Nat.le_refl _)⟩

set_option maxHeartbeats 1000000 in
theorem ownVers_calls (l : List Ver) (base : Option Addr) (n c : Nat) (w : World) (hn : n * 24 ≤ 140737488355328) (ha : Vers w base n c l) :
   Calls Tryz.prog 82 #[.slice base n c] w fun e w' => ∃ b' c', e = .returned (.slice b' n c') ∧ OwnsV w' w.heap.size (.slice b' n c') l ∧ Below w.heap.size w w' := by
 have HA := hid ha
 have HN : Hid ((0 + n) * 24 ≤ 140737488355328) := by show _ ≤ _; omega
 have HL := hid (Vers.count ha)
 clear ha hn
 go_enter Tryz.func82, Tryz.ntmps82
 go_wp2_with (at_builtin; refine wpList_onto _ rfl _ _ 116 93 4 24 _ Tryz.underlying116 verInfo rfl (by decide) (by decide) rfl w.heap.size _ 0 [] rfl (World.ownsRow_nil _ _ _ _) base n c (flat verC l) rfl HA.out (flatV_one l) HN.out (Nat.le_refl _) ?_)
 intro v' w' h1 h2
 have h3 : w'.ownsRow w.heap.size 93 4 v' n (flat verC l) := by simpa using h1
 obtain ⟨b', c', rfl, hl⟩ := Lies.owned h3
 have H3 : Hid (OwnsV w' w.heap.size (.slice b' n c') l) := by
   show World.ownsRow _ _ _ _ _ _ _
   rw [← HL.out]; exact h3
 have HB := hid ((Below.refl _ w).grown h2 (Nat.le_refl _) (fun k hk => by cases hk))
 clear h1 h2 h3 hl
 go_wp2
 go_ret
 exact ⟨_, _, rfl, H3.out, HB.out⟩

structure FitC (L : List Chn) : Prop where
 srt : SrtC L
 key : ∀ c ∈ L, keyB c.1 = true
 rise : ∀ c ∈ L, Rise c.2
 few : ∀ c ∈ L, c.2.length ≤ 1954687338214
theorem FitC.count {L : List Chn} (h : FitC L) : L.length ≤ 387420489 := chains_few h.srt h.key
theorem memC {L : List Chn} {i : Nat} (h : i < L.length) : L.getD i default ∈ L := by simp [List.getD, h]

set_option maxHeartbeats 1000000 in
theorem before_calls (L : List Chn) (base : Option Addr) (n c : Nat) (k : ByteArray) (by_ : Int) (w : World) (hf : FitC L) (ha : ChainsIn w base n c L) :
   Calls Tryz.prog 88 #[.slice base n c, .string k, .int .i64 by_] w fun e w' => VerTold w w' (before L k by_) e := by
 have hc := hf.count
 have HG := hid (grew w (.cells #[.int .i64 0, .bool false, .bool false, .int .i64 0] 93))
 have HFC := hid (findC_calls L base n c k _ (by have := ha.len; omega) hf.srt (ha.below HG.out))
 have HE : Hid (before L k by_ = befV by_ (if isAtC k L = true then (L.getD (posC k L) default).2 else []) ver0) := by
   show _ = _
   unfold before; rw [vsOf_at hf.srt]
 have HAT : Hid (isAtC k L = true → posC k L < L.length) := by
   intro h
   unfold isAtC at h
   simp only [Bool.and_eq_true, decide_eq_true_eq] at h
   exact h.1
 have HV := hid (ha.below HG.out)
 have HN := hid ha.len
 have HF := hid hf
 have hcn : n ≤ 387420489 := by rw [ha.len]; exact hc
 clear ha hf hc
 generalize posC k L = p at *
 cases hat : isAtC k L with
 | false =>
   rw [hat] at HE HFC
   clear hat HAT
   go_enter Tryz.func88, Tryz.ntmps88
   go_wp2_with fail
   refine HFC.out.mono ?_
   rintro e w1 ⟨rfl, hb⟩
   have HFO := hid ((Four.box w 0 false false 0 93).below hb)
   have HFR := hid ((Free4.box w #[.int .i64 0, .bool false, .bool false, .int .i64 0] 93).below hb (by simp))
   have HB := hid (below_deep HG.out hb)
   have HL := hid (lastBelow_calls [] none 0 0 by_ w1 (by omega) List.Pairwise.nil (Lies.none _ _))
   clear hb HFC
   go_wp2_with fail
   refine HL.out.mono ?_
   rintro e w2 ⟨y, mm, hh, x, hv, rfl, hb2⟩
   have hfo := HFO.out.below hb2
   have hfr := HFR.out.below hb2 HFO.out.lt
   have HFO2 := hid hfo
   obtain ⟨g0, g1, g2, g3⟩ := hfo
   obtain ⟨f0, f1, f2, f3⟩ := hfr
   have HB2 := hid (below_deep HB.out hb2)
   have HE2 : Hid (before L k by_ = (y, mm, hh, x)) := by show _ = _; rw [HE.out, ← hv]; rfl
   clear hb2 hv HL
   go_wp2
   (try simp only [Exit.inBlock, Exit.then])
   refine bodyPost_ret (before_results _ w.heap.size _ rfl (HFO2.out.put _ _ _ _)) rfl ?_
   exact ⟨_, _, _, _, HE2.out, rfl, four_below HB2.out (Nat.le_refl _)⟩
 | true =>
   have HPL := hid (HAT.out hat)
   rw [hat] at HE HFC
   clear hat HAT
   have hpl : p < n := by rw [HN.out]; exact HPL.out
   have hi : (p : Int) < (n : Int) := by omega
   go_enter Tryz.func88, Tryz.ntmps88
   go_wp2_with fail
   refine HFC.out.mono ?_
   rintro e w1 ⟨rfl, hb⟩
   have HFO := hid ((Four.box w 0 false false 0 93).below hb)
   have HFR := hid ((Free4.box w #[.int .i64 0, .bool false, .bool false, .int .i64 0] 93).below hb (by simp))
   have HB := hid (below_deep HG.out hb)
   rcases (HV.out.below hb).run with h | ⟨b, o, rfl, hrun⟩
   · omega
   obtain ⟨vb, vn, vc, c0, c1, hvv, _⟩ := hrun p hpl
   have hbw : b < w1.heap.size := by simpa using World.block_lt_of_cell? _ _ c0
   have hmem : L.getD p default ∈ L := memC HPL.out
   have HL := hid (lastBelow_calls _ vb vn vc by_ w1 (by have := HF.out.few _ hmem; have := Vers.count hvv; omega) (HF.out.rise _ hmem) hvv)
   clear hb HFC hrun hvv hmem
   go_wp2_with fail
   refine HL.out.mono ?_
   rintro e w2 ⟨y, mm, hh, x, hv, rfl, hb2⟩
   have hfo := HFO.out.below hb2
   have hfr := HFR.out.below hb2 HFO.out.lt
   have HFO2 := hid hfo
   obtain ⟨g0, g1, g2, g3⟩ := hfo
   obtain ⟨f0, f1, f2, f3⟩ := hfr
   have HB2 := hid (below_deep HB.out hb2)
   have HE2 : Hid (before L k by_ = (y, mm, hh, x)) := by show _ = _; rw [HE.out, ← hv]; rfl
   clear hb2 hv HL
   go_wp2
   (try simp only [Exit.inBlock, Exit.then])
   refine bodyPost_ret (before_results _ w.heap.size _ rfl (HFO2.out.put _ _ _ _)) rfl ?_
   exact ⟨_, _, _, _, HE2.out, rfl, four_below HB2.out (Nat.le_refl _)⟩
end Go.Proofs.YtnbekpblmkdnlaaGreatDoor

namespace Go.Proofs.YtnbekpblmkdnlaaGreatDoor
open Go.RowKit

theorem step_grow (w : World) {ops : Array Oper} {o : Oper} {a : Act} {K : Act → World → Prop} {Q : Exit → Act → World → Prop} {E : Prop} (hgd : o.guard = none) (s x : Operand) (t e sz bytes : Nat) (z : Value)
   (hu : Tryz.prog.underlying t = some (.slice e)) (hinfo : (Tryz.prog.info? e).map (fun i => (i.zero, i.size, i.bytes)) = some (some z, sz, bytes)) (hzc : z.cells.size = sz) (hsz : 0 < sz) (hby : 0 < bytes)
   (ho : o.op = .call { callee := .builtin .append, args := #[s, x], argTypes := #[t, t] })
   (B : Nat) (v : Value) (n : Nat) (l : List Value) (hs : a.eval s = v) (hown : w.ownsRow B e sz v n l) (base : Option Addr) (m c : Nat) (l2 : List Value) (hx : a.eval x = .slice base m c) (hh : Lies w sz base m c l2) (hone : ∀ u ∈ l2, u.oneCell' = true)
   (hbytes : (n + m) * bytes ≤ 140737488355328) (hB : B ≤ w.heap.size)
   (h : ∀ v' w', w'.ownsRow B e sz v' (n + m) (l ++ l2) → w.grownBy w' v.ownBlock → K (a.put o.dst v') w') : if Region.wanted o (yielded ops a.tmps) = true then Oper.wp Tryz.prog o a w K Q else E := by
 have hw : Region.wanted o (yielded ops a.tmps) = true := by simp [Region.wanted, hgd]
 rw [if_pos hw]
 obtain ⟨i0, hi, hz0, hz1, hz2⟩ := info_parts hinfo
 have hlen := hh.len
 have h63 : n + m ≤ maxLen := by
   have := Nat.le_mul_of_pos_right (n + m) hby
   unfold maxLen; omega
 have key : ∀ ad, base = some ad → (∀ j u, l2[j]? = some u → w.cell? (ad.add j) = some u) → Oper.wp Tryz.prog o a w K Q := fun ad had hnews =>
   wp_append_own w s x t ho B e i0 _ sz bytes hu hi hz0 hz1 hz2 hzc hsz v n l hs hown ad m c l2 (by rw [hx, had]) hlen hnews hone h63 hbytes hB
     (fun v' w' h1 h2 _ => h v' w' h1 h2)
 cases base with
 | some ad =>
   rcases hh.run with he | ⟨b, o', he, hc⟩
   · subst he
     have : l2 = [] := List.eq_nil_of_length_eq_zero (by omega)
     exact key ad rfl (fun j u hu => by rw [this] at hu; simp at hu)
   · cases he
     exact key _ rfl (fun j u hu => by rw [Addr.add_lit]; exact hc j u hu)
 | none =>
   obtain rfl := hh.hdr.nil rfl
   obtain rfl : m = 0 := by have := hh.hdr.le; omega
   have hl2 : l2 = [] := List.eq_nil_of_length_eq_zero (by omega)
   have hrun := run_append_owned_none (P := Tryz.prog) w B t o.type e i0 sz hu hi v n l hown
   unfold Oper.wp
   simp [execOp, ho, resolve, invoke, builtin, hs, hx, hrun, Result.andThen]
   exact h v w (by rw [hl2]; simpa using hown) (World.grownBy.refl _ _)

theorem cells2_keep {w1 w2 : World} {b0 o0 b1 o1 : Nat} {x0 x1 : Value} (h : w1.cell? ⟨b0, o0, none⟩ = some x0 ∧ w1.cell? ⟨b1, o1, none⟩ = some x1) (hb : Below w1.heap.size w1 w2) :
   w2.cell? ⟨b0, o0, none⟩ = some x0 ∧ w2.cell? ⟨b1, o1, none⟩ = some x1 := ⟨kept_cell hb h.1, kept_cell hb h.2⟩
theorem cells2_past {w1 : World} {b0 o0 b1 o1 : Nat} {x0 x1 : Value} (o : Obj) (h : w1.cell? ⟨b0, o0, none⟩ = some x0 ∧ w1.cell? ⟨b1, o1, none⟩ = some x1) :
   (w1.alloc o).cell? ⟨b0, o0, none⟩ = some x0 ∧ (w1.alloc o).cell? ⟨b1, o1, none⟩ = some x1 := ⟨box_past _ h.1, box_past _ h.2⟩
theorem cells2_grown {w1 w2 : World} {b o0 o1 : Nat} {x0 x1 : Value} {row : Option Nat} (hne : some b ≠ row) (hg : w1.grownBy w2 row) (h : w1.cell? ⟨b, o0, none⟩ = some x0 ∧ w1.cell? ⟨b, o1, none⟩ = some x1) :
   w2.cell? ⟨b, o0, none⟩ = some x0 ∧ w2.cell? ⟨b, o1, none⟩ = some x1 := ⟨hg.cell h.1 hne, hg.cell h.2 hne⟩
theorem own_old {w : World} {B e s n : Nat} {v : Value} {xs : List Value} (h : w.ownsRow B e s v n xs) : some w.heap.size ≠ v.ownBlock := fun e => by
 have := (h.lt _ e.symm).2; omega

theorem own_step {w wr A w1 w2 : World} {j : Nat} {u v2 : Value} {S : List Slot} {L : List Chn} {key : ByteArray} {vs : List Ver} {b1 : Option Addr} {vn c1 : Nat} {o : Obj}
   (HO : wr.ownsRow w.heap.size 118 2 u j (flat slotC S)) (HS : OwnSlots wr w.heap.size S L) (HB : Below w.heap.size w wr) (HG : Below wr.heap.size wr A) (hb1 : Below A.heap.size A w1)
   (ho1 : OwnsV w1 A.heap.size (.slice b1 vn c1) vs) (hz : key.size ≤ maxLen) (hown2 : w2.ownsRow w.heap.size 118 2 v2 (j + 1) (flat slotC S ++ [.string key, .slice b1 vn c1])) (hg2 : (w1.alloc o).grownBy w2 u.ownBlock) :
   w2.ownsRow w.heap.size 118 2 v2 (j + 1) (flat slotC (S ++ [(key, b1, vn, c1)])) ∧ OwnSlots w2 w.heap.size (S ++ [(key, b1, vn, c1)]) (L ++ [(key, vs)]) ∧ Below w.heap.size w w2 := by
 have hBA : w.heap.size ≤ A.heap.size := Nat.le_trans HB.size HG.size
 have hsl : OwnSlots w1 w.heap.size (S ++ [(key, b1, vn, c1)]) (L ++ [(key, vs)]) := by
   refine ((HS.below HG).below hb1).snoc rfl hz (owns_lower ho1 hBA) (fun i hi a ha e => ?_)
   have h1 := (HS.below HG).lt hi ha
   have h2 := (ho1.lt a e).1
   omega
 have hrow : (w1.alloc o).ownsRow w.heap.size 118 2 u j (flat slotC S) := (owns_keep (owns_keep HO HG) hb1).alloc o
 refine ⟨by rw [flat_snoc]; exact hown2, (hsl.below (grew w1 o)).grown hrow (by decide) hg2, ?_⟩
 refine ((below_deep (below_deep HB HG) hb1).alloc (Nat.le_trans hBA hb1.size) o).grown hg2 (le_box (Nat.le_trans hBA hb1.size)) (fun k hk => (HO.lt k hk).1)

set_option maxHeartbeats 2000000 in
set_option maxRecDepth 100000 in
theorem ownC_calls (L : List Chn) (base : Option Addr) (n c : Nat) (w : World) (hf : FitC L) (ha : ChainsIn w base n c L) :
   Calls Tryz.prog 72 #[.slice base n c] w fun e w' => ∃ v S, e = .returned v ∧ w'.ownsRow w.heap.size 118 2 v n (flat slotC S) ∧ OwnSlots w' w.heap.size S L ∧ Below w.heap.size w w' := by
 have hcn : n ≤ 387420489 := by rw [ha.len]; exact hf.count
 have HA := hid ha
 have HLN := hid ha.len
 have HF := hid hf
 clear ha hf
 go_enter Tryz.func72, Tryz.ntmps72
 go_wp2
 go_loopw [3, 8] (fun v i wr => ∃ (j : Nat) (S : List Slot), j ≤ n ∧ i = .int .i64 j ∧ Hid (wr.ownsRow w.heap.size 118 2 v j (flat slotC S)) ∧ Hid (OwnSlots wr w.heap.size S (L.take j)) ∧ Hid (Below w.heap.size w wr)) (fun _ i _ => n - (intOf i).toNat)
 case atStart => exact ⟨0, [], Nat.zero_le _, rfl, World.ownsRow_nil _ _ _ _, OwnSlots.nil _ _, Below.refl _ _⟩
 case round =>
   obtain ⟨j, S, hj, rfl, HO, HS, HBR⟩ := hrel
   by_cases hlt : j < n
   · have hjl : j < L.length := by rw [← HLN.out]; exact hlt
     have hi : (j : Int) < (n : Int) := by omega
     rcases (HA.out.below HBR.out).run with h | ⟨b, o, rfl, hrun⟩
     · omega
     obtain ⟨vb, vn, vc, c0, c1, hvv, hkz⟩ := hrun j hlt
     have hbw : b < wr.heap.size := by simpa using World.block_lt_of_cell? _ _ c0
     have hfew := HF.out.few _ (memC hjl)
     rw [← Vers.count hvv] at hfew
     have HTK := hid (take_snoc_getD hjl)
     rcases hx : L.getD j default with ⟨key, vs⟩
     rw [hx] at c0 hvv hkz HTK
     simp only at c0 hvv hkz
     clear hx hrun
     have HGW := hid (grew wr (.cells #[.string key, .slice vb vn vc] 118))
     have HS0 : Hid ((fun w' => w'.cell? ⟨wr.heap.size, 0, none⟩ = some (.string key) ∧ w'.cell? ⟨wr.heap.size, 1, none⟩ = some (.slice vb vn vc)) (wr.alloc (.cells #[.string key, .slice vb vn vc] 118)).drew) := ⟨box_cell wr #[.string key, .slice vb vn vc] _ 0 _ rfl, box_cell wr #[.string key, .slice vb vn vc] _ 1 _ rfl⟩
     have HOV := hid (ownVers_calls vs vb vn vc (wr.alloc (.cells #[.string key, .slice vb vn vc] 118)).drew (by omega) (hvv.below (by decide) HGW.out.drew))
     have HKZ := hid hkz
     have HNE := hid (own_old HO.out)
     clear hvv hkz
     go_wp2
     go_region_held3 (fun w' => w'.cell? ⟨wr.heap.size, 0, none⟩ = some (.string key) ∧ w'.cell? ⟨wr.heap.size, 1, none⟩ = some (.slice vb vn vc))
       (first
         | exact HS0.out
         | exact cells2_keep HS0.out (by assumption)
         | exact cells2_past _ (by assumption)
         | exact cells2_grown HNE.out (by assumption) (by assumption))
       (first
         | (go_at_call 82; refine HOV.out.mono ?_; rintro e w1 ⟨b1, c1', rfl, ho1, hb1⟩)
         | (refine step_grow _ rfl _ _ 30 118 2 40 _ Tryz.underlying30 chnInfo rfl (by decide) (by decide) rfl w.heap.size _ j (flat slotC S) rfl ?_ _ 1 _ [.string key, .slice b1 vn c1'] rfl ?_ ?_ ?_ ?_ ?_; (exact (owns_keep (owns_keep HO.out HGW.out.drew) hb1).alloc _); (exact lies_one w1 #[.string key, .slice b1 vn c1'] _ 2 rfl); (exact slotC_one (key, b1, vn, c1')); omega; (exact Nat.le_trans HBR.out.size (Nat.le_trans HGW.out.size (Nat.le_trans hb1.size (by simp)))); intro v2 w2 hown2 hg2))
     have HX := hid (own_step HO.out HS.out HBR.out HGW.out.drew hb1 ho1 HKZ.out hown2 hg2)
     clear hown2 hg2 ho1 hb1 HOV HS0
     go_wp2
     go_roundw
     case rel => exact ⟨j + 1, S ++ [(key, b1, vn, c1')], by omega, by go_num, HX.out.1, by rw [HTK.out]; exact HX.out.2.1, HX.out.2.2⟩
     case measure => simp [intOf]; omega
   · obtain rfl : j = n := by omega
     have HS3 : Hid (OwnSlots wr w.heap.size S L) := by
       have := HS.out
       rw [List.take_of_length_le (by rw [← HLN.out]; exact Nat.le_refl _)] at this
       exact this
     go_wp2
     go_ret
     exact ⟨_, S, rfl, HO.out, HS3.out, HBR.out⟩
end Go.Proofs.YtnbekpblmkdnlaaGreatDoor

namespace Go.Proofs.YtnbekpblmkdnlaaGreatDoor
open Go.RowKit

theorem step_box {A w1 : World} (h : Below A.heap.size A w1) (o : Obj) : Below A.heap.size A (w1.alloc o) := h.alloc h.size o
theorem step_drew {A w1 : World} (h : Below A.heap.size A w1) : Below A.heap.size A w1.drew := ⟨h.os, h.tape, h.output, h.size, h.block⟩
theorem step_row {A w1 w2 : World} {e s n : Nat} {v : Value} {xs : List Value} (h : Below A.heap.size A w1) (ho : w1.ownsRow A.heap.size e s v n xs) (hg : w1.grownBy w2 v.ownBlock) : Below A.heap.size A w2 := h.grown hg h.size (fun k hk => (ho.lt k hk).1)
theorem lit_row (w : World) (B e s : Nat) (h : B ≤ w.heap.size) : (w.alloc (.cells #[] e)).ownsRow B e s (.slice (some ⟨w.heap.size, 0, none⟩) 0 0) 0 [] := by
 have := World.ownsRow_lit (base := B) (e := e) (size := s) w #[] 0 h (by unfold maxLen; omega) (by simp)
 simpa using this
theorem hold2 {A w' : World} {a b : Prop} (h : a ∧ b ∧ Below A.heap.size A w') : Below A.heap.size A w' := h.2.2
theorem hold4 {A w' : World} {a b c d : Prop} (h : a ∧ b ∧ c ∧ d ∧ Below A.heap.size A w') : Below A.heap.size A w' := h.2.2.2.2
theorem hold5 {A w' : World} {a b c d e : Prop} (h : a ∧ b ∧ c ∧ d ∧ e ∧ Below A.heap.size A w') : Below A.heap.size A w' := h.2.2.2.2.2
theorem hold6 {A w' : World} {a b c d e f : Prop} (h : a ∧ b ∧ c ∧ d ∧ e ∧ f ∧ Below A.heap.size A w') : Below A.heap.size A w' := h.2.2.2.2.2.2
set_option maxHeartbeats 4000000 in
set_option maxRecDepth 100000 in
theorem refKeys_calls (d : Deed3) (rb : Option Addr) (rn rc : Nat) (wb : Option Addr) (wn wc : Nat) (cb : Option Addr) (cn cc : Nat) (w : World) (hd : DeedIn w rb rn rc wb wn wc cb cn cc d.1 d.2.1 d.2.2) (h5 : rn ≤ 5) (h6 : wn ≤ 5) :
   Calls Tryz.prog 55 #[.agg #[.slice rb rn rc, .slice wb wn wc, .slice cb cn cc]] w fun e w' => ∃ b n c, e = .returned (.slice b n c) ∧ Texts w' b n c (keysD d) ∧ Below w.heap.size w w' := by
 have HBX := hid (Box.new w #[.slice rb rn rc, .slice wb wn wc, .slice cb cn cc] 52)
 have HBA := hid (grew w (.cells #[.slice rb rn rc, .slice wb wn wc, .slice cb cn cc] 52))
 have HD := hid (hd.below HBA.out)
 have HN1 := hid (Texts.count hd.tr)
 have HN2 := hid (Texts.count hd.tw)
 have N1 : Hid ((0 + rn) * 16 ≤ 140737488355328) := by show _ ≤ _; omega
 have N2 : Hid ((0 + rn + wn) * 16 ≤ 140737488355328) := by show _ ≤ _; omega
 clear hd
 go_enter Tryz.func55, Tryz.ntmps55
 go_wp2
 generalize w.alloc (.cells #[.slice rb rn rc, .slice wb wn wc, .slice cb cn cc] 52) = A at *
 have HK : Hid (∀ w', Below A.heap.size A w' → (w'.cell? ⟨w.heap.size, 0, none⟩ = some (.slice rb rn rc) ∧ w'.cell? ⟨w.heap.size, 1, none⟩ = some (.slice wb wn wc) ∧ Below A.heap.size A w')) := fun w' hb => ⟨(HBX.out.below hb).cell 0 _ rfl, (HBX.out.below hb).cell 1 _ rfl, hb⟩
 go_region_held3 (fun w' => w'.cell? ⟨w.heap.size, 0, none⟩ = some (.slice rb rn rc) ∧ w'.cell? ⟨w.heap.size, 1, none⟩ = some (.slice wb wn wc) ∧ Below A.heap.size A w')
   (first
     | exact HK.out _ (step_drew (Below.refl _ _))
     | exact HK.out _ (step_box (hold2 (by assumption)) _)
     | exact HK.out _ (by assumption))
   (first
     | (refine step_grow _ rfl _ _ 49 9 1 16 _ Tryz.underlying49 strInfo rfl (by decide) (by decide) rfl A.heap.size _ 0 [] rfl (lit_row A.drew A.heap.size _ 1 (Nat.le_refl _)) rb rn rc (strs d.1) rfl ?_ (strs_one d.1) N1.out ?_ ?_; (exact HD.out.tr.below (by decide) (hold2 (by assumption))); (exact (hold2 (by assumption)).size); intro v1 w1 hown1 hg1; have hb1 := step_row (step_box (step_drew (Below.refl A.heap.size A)) _) (lit_row A.drew A.heap.size 9 1 (Nat.le_refl _)) hg1)
     | (refine step_grow _ rfl _ _ 49 9 1 16 _ Tryz.underlying49 strInfo rfl (by decide) (by decide) rfl A.heap.size _ _ _ rfl hown1 wb wn wc (strs d.2.1) rfl ?_ (strs_one d.2.1) N2.out ?_ ?_; (exact HD.out.tw.below (by decide) (hold2 (by assumption))); (exact (hold2 (by assumption)).size); intro v2 w2 hown2 hg2; have hb2 := step_row hb1 hown1 hg2; obtain ⟨kb, kc, hke, hkl⟩ := Lies.owned hown2; subst hke))
 have HL : Hid (Texts w2 kb (rn + wn) kc (d.1 ++ d.2.1)) := by
   show Lies _ _ _ _ _ _
   rw [strs_append]
   simpa using hkl
 have HB2 := hid (below_deep HBA.out hb2)
 have hkn : rn + wn ≤ 10 := by omega
 have HKN : Hid (rn + wn = (d.1 ++ d.2.1).length) := by show _ = _; rw [List.length_append, ← HN1.out, ← HN2.out]
 have HFIN : Hid (keysD d = (d.1 ++ d.2.1).foldl addKey []) := rfl
 clear hown1 hg1 hb1 hown2 hg2 hb2 hkl HK HBX HD N1 N2 HBA HN1 HN2
 simp only [Nat.zero_add]
 rw [show ((rn : Int) + (wn : Int)) = ((rn + wn : Nat) : Int) from by omega]
 generalize d.1 ++ d.2.1 = K at *
 generalize rn + wn = kn at *
 go_wp2
 go_loopw [3, 17] (fun v i wr => ∃ j r : Nat, j ≤ kn ∧ r ≤ j ∧ i = .int .i64 j ∧ Hid (((K.take j).foldl addKey []).length = r) ∧ Hid (wr.ownsRow w2.heap.size 9 1 v r (strs ((K.take j).foldl addKey []))) ∧ Hid (Below w2.heap.size w2 wr)) (fun _ i _ => kn - (intOf i).toNat)
 case atStart => exact ⟨0, 0, Nat.zero_le _, Nat.le_refl _, rfl, rfl, World.ownsRow_nil _ _ _ _, Below.refl _ _⟩
 case round =>
   obtain ⟨j, r, hj, hr, rfl, HR, HO, HBR⟩ := hrel
   by_cases hlt : j < kn
   · have hjl : j < K.length := by rw [← HKN.out]; exact hlt
     have hi : (j : Int) < (kn : Int) := by omega
     rcases (HL.out.below (by decide) HBR.out).run with h | ⟨b, o, rfl, h1⟩
     · omega
     have c1 := h1 j _ (strs_at hjl)
     have hbw : b < wr.heap.size := by simpa using World.block_lt_of_cell? _ _ c1
     have HTK : Hid ((K.take (j + 1)).foldl addKey [] = addKey ((K.take j).foldl addKey []) (K.getD j default)) := by
       show _ = _
       rw [take_snoc_getD hjl, List.foldl_append, List.foldl_cons, List.foldl_nil]
     clear h1
     generalize K.getD j default = k at *
     generalize (K.take j).foldl addKey [] = O at *
     obtain ⟨ob, oc, rfl, hol⟩ := Lies.owned HO.out
     have HOL : Hid (Texts wr ob r oc O) := hol
     clear hol
     go_wp2
     generalize wr = wa at *
     go_loopw [6, 23] (fun hv i wr => ∃ q : Nat, q ≤ r ∧ i = .int .i64 q ∧ hv = .bool (has (O.take q) k) ∧ Hid (wr = wa)) (fun _ i _ => r - (intOf i).toNat)
     case atStart => exact ⟨0, Nat.zero_le _, rfl, rfl, rfl⟩
     case round =>
       obtain ⟨q, hq, rfl, rfl, HWE⟩ := hrel
       have hwe := HWE.out
       subst hwe
       by_cases hql : q < r
       · have hqO : q < O.length := by rw [HR.out]; exact hql
         have hiq : (q : Int) < (r : Int) := by omega
         rcases HOL.out.run with h | ⟨b2, o2, rfl, h2⟩
         · omega
         have c2 := h2 q _ (strs_at hqO)
         have hb2w : b2 < wr.heap.size := by simpa using World.block_lt_of_cell? _ _ c2
         have HT2 := hid (has_snoc (O.take q) (O.getD q default) k)
         rw [← take_snoc_getD hqO] at HT2
         clear h2
         generalize O.getD q default = x at *
         cases hh : has (O.take q) k with
         | true =>
           rw [hh] at HT2
           clear hh
           have HT3 : Hid (has (O.take (q + 1)) k = true) := by show _ = _; rw [HT2.out]; rfl
           go_wp2
           go_roundw
           case rel => exact ⟨q + 1, by omega, by go_num, by rw [HT3.out], trivial⟩
           case measure => simp [intOf]; omega
         | false =>
           rw [hh] at HT2
           clear hh
           by_cases hx : x = k
           · have t := streq_true hx
             have HT3 : Hid (has (O.take (q + 1)) k = true) := by show _ = _; rw [HT2.out, hx]; simp
             clear hx
             go_wp2
             go_roundw
             case rel => exact ⟨q + 1, by omega, by go_num, by rw [HT3.out], trivial⟩
             case measure => simp [intOf]; omega
           · have t := streq_false hx
             have HT3 : Hid (has (O.take (q + 1)) k = false) := by show _ = _; rw [HT2.out, decide_eq_false hx]; rfl
             clear hx
             go_wp2
             go_roundw
             case rel => exact ⟨q + 1, by omega, by go_num, by rw [HT3.out], trivial⟩
             case measure => simp [intOf]; omega
       · obtain rfl : q = r := by omega
         have hOq : O.take q = O := List.take_of_length_le (by rw [HR.out]; exact Nat.le_refl _)
         rw [hOq]
         cases hh : has O k with
         | true =>
           have HO2 : Hid (addKey O k = O) := by show _ = _; unfold addKey; rw [if_pos hh]
           clear hh hOq
           go_wp2
           go_roundw
           case rel => exact ⟨j + 1, q, by omega, by omega, by go_num, (by show _ = _; rw [HTK.out, HO2.out]; exact HR.out), (by rw [HTK.out, HO2.out]; exact HO), HBR⟩
           case measure => simp [intOf]; omega
         | false =>
           have HO2 : Hid (addKey O k = O ++ [k]) := by show _ = _; unfold addKey; rw [if_neg (by rw [hh]; simp)]
           clear hh hOq
           have HC1 := hid (lies_one wr #[.string k] 9 1 rfl)
           have HOA := hid (HO.out.alloc (.cells #[.string k] 9))
           have HBY : Hid ((q + 1) * 16 ≤ 140737488355328) := by show _ ≤ _; omega
           have HSZ := hid (le_box (o := .cells #[.string k] 9) HBR.out.size)
           go_wp2_with (at_builtin; refine wpList_onto _ rfl _ _ 49 9 1 16 _ Tryz.underlying49 strInfo rfl (by decide) (by decide) rfl w2.heap.size _ q _ rfl HOA.out _ 1 _ _ rfl HC1.out (strs_one [k]) HBY.out HSZ.out ?_)
           intro v3 w3 hown3 hg3
           have HB3 := hid (step_row (step_box HBR.out _) HOA.out hg3)
           have HO3 : Hid (w3.ownsRow w2.heap.size 9 1 v3 (q + 1) (strs (O ++ [k]))) := by
             show World.ownsRow _ _ _ _ _ _ _
             rw [strs_append]; exact hown3
           clear hown3 hg3
           go_wp2
           go_roundw
           case rel => exact ⟨j + 1, q + 1, by omega, by omega, by go_num, (by show _ = _; rw [HTK.out, HO2.out, List.length_append, HR.out]; rfl), (by rw [HTK.out, HO2.out]; exact HO3), HB3⟩
           case measure => simp [intOf]; omega
   · obtain rfl : j = kn := by omega
     have htk : K.take j = K := List.take_of_length_le (by rw [← HKN.out]; exact Nat.le_refl _)
     rw [htk, ← HFIN.out] at HO
     obtain ⟨ob, oc, rfl, hol⟩ := Lies.owned HO.out
     have HOL : Hid (Texts wr ob r oc (keysD d)) := hol
     clear hol
     go_wp2
     go_ret
     exact ⟨_, _, _, rfl, HOL.out, below_deep HB2.out HBR.out⟩
end Go.Proofs.YtnbekpblmkdnlaaGreatDoor
