/-
  How the program does a right deed.
-/
import Derived.Test.YtlhaeeenkgkdaaaGreatDoorDeedTurn
import Derived.Deep.RegionWith
import Derived.Deep.QuietTactic
import Derived.BigQuiet
namespace Go.Proofs.YtlhaeeenkgkdaaaGreatDoor
open Go.RowKit

structure Regs (w : World) (s : Nat) (r : Nat → Int) : Prop where
 at_ : ∀ i, i < 4 → w.cell? ⟨s, i, none⟩ = some (.int .i64 (r i))
 free : ∀ i, i < 4 → w.frozen? ⟨s, i, none⟩ = false
theorem Regs.lt {w : World} {s : Nat} {r : Nat → Int} (h : Regs w s r) : s < w.heap.size := by simpa using World.block_lt_of_cell? _ _ (h.at_ 0 (by decide))
theorem Regs.deep {w w' : World} {s B : Nat} {r : Nat → Int} (h : Regs w s r) (hb : Below B w w') (hB : s < B) : Regs w' s r :=
 ⟨fun i hi => by rw [hb.cell (p := ⟨s, i, none⟩) hB]; exact h.at_ i hi, fun i hi => by rw [hb.frozen (p := ⟨s, i, none⟩) hB]; exact h.free i hi⟩
theorem Regs.set {w : World} {s : Nat} {r : Nat → Int} (h : Regs w s r) {a : Nat} (ha : a < 4) (x : Int) : Regs (w.setCell ⟨s, a, none⟩ (.int .i64 x)) s (setR r a x) := by
 refine ⟨fun i hi => ?_, fun i hi => by rw [World.frozen?_setCell]; exact h.free i hi⟩
 by_cases e : i = a
 · subst e
   rw [World.cell?_setCell_same _ _ _ (h.at_ i hi)]; simp [setR]
 · rw [World.cell?_setCell_other _ _ _ _ (fun x => e (by cases x; rfl)), h.at_ i hi]; simp [setR, e]
theorem Regs.alloc {w : World} {s : Nat} {r : Nat → Int} (h : Regs w s r) (o : Obj) : Regs (w.alloc o) s r := h.deep (B := w.heap.size) ((Below.refl _ _).alloc (Nat.le_refl _) _) h.lt

structure Keeps (w wr : World) (q : Nat) (r : Nat → Int) (m : Made) : Prop where
 regs : Regs wr w.heap.size r
 place : wr.cell? ⟨w.heap.size + 2, 0, none⟩ = some (.map (some (w.heap.size + 1)))
 map : MapIs wr (w.heap.size + 1) q (verMap m)
 old : Below w.heap.size w wr
theorem Keeps.deep {w wr wr' : World} {q : Nat} {r : Nat → Int} {m : Made} (h : Keeps w wr q r m) (hb : Below wr.heap.size wr wr') : Keeps w wr' q r m :=
 ⟨h.regs.deep hb h.regs.lt, kept_cell hb h.place, h.map.deep hb, h.old.trans (hb.mono (Nat.le_of_lt h.regs.lt))⟩
theorem Keeps.set {w wr : World} {q : Nat} {r : Nat → Int} {m : Made} (h : Keeps w wr q r m) {a : Nat} (ha : a < 4) (x : Int) : Keeps w (wr.setCell ⟨w.heap.size, a, none⟩ (.int .i64 x)) q (setR r a x) m :=
 ⟨h.regs.set ha x, by rw [World.cell?_setCell_other _ _ _ _ (fun e => by have := congrArg Addr.block e; simp at this)]; exact h.place, h.map.setCell (by simp) _, h.old.setCell (Nat.le_refl _) _⟩
theorem Keeps.put {w wr w2 : World} {q : Nat} {r : Nat → Int} {m : Made} {k : ByteArray} {o : Option Int} (h : Keeps w wr q r m) (hm : MapIs w2 (w.heap.size + 1) (q + 1) (fun j => if j = k then some (verVal o) else verMap m j)) (hg : wr.grownBy w2 (some (w.heap.size + 1))) : Keeps w w2 (q + 1) r (setM m k o) := by
 have hlt := h.regs.lt
 have hpl : w.heap.size + 2 < wr.heap.size := by simpa using World.block_lt_of_cell? _ _ h.place
 have hb0 := hg.block w.heap.size (by omega) (by simp)
 have hb2 := hg.block (w.heap.size + 2) (by omega) (by simp)
 refine ⟨⟨fun i hi => ?_, fun i hi => ?_⟩, ?_, ?_, ⟨hg.os.trans h.old.os, hg.tape.trans h.old.tape, hg.output.trans h.old.output, Nat.le_trans h.old.size hg.size, fun j hj => (hg.block j (by omega) (by simp; omega)).trans (h.old.block j hj)⟩⟩
 · rw [World.cell?_of_block (w := wr) (a := ⟨w.heap.size, i, none⟩) hb0]; exact h.regs.at_ i hi
 · rw [World.frozen?_of_block (w := wr) (a := ⟨w.heap.size, i, none⟩) hb0]; exact h.regs.free i hi
 · rw [World.cell?_of_block (w := wr) (a := ⟨w.heap.size + 2, 0, none⟩) hb2]; exact h.place
 · rw [verMap_set]; exact hm
theorem result_cell {w1 wr : World} {b : Nat} (hb : Below w1.heap.size w1 wr) (h : ∀ j, j < 5 → w1.frozen? ⟨b, j, none⟩ = false ∧ ∃ u, w1.cell? ⟨b, j, none⟩ = some u) (j : Nat) (hj : j < 5) : wr.frozen? ⟨b, j, none⟩ = false ∧ ∃ u, wr.cell? ⟨b, j, none⟩ = some u := by
 obtain ⟨h1, u, h2⟩ := h j hj
 have hlt : b < w1.heap.size := by simpa using World.block_lt_of_cell? _ _ h2
 rw [hb.frozen (p := ⟨b, j, none⟩) hlt, hb.cell (p := ⟨b, j, none⟩) hlt]
 exact ⟨h1, u, h2⟩
def five (w : World) (b : Nat) (f : Bool) (x0 x1 x2 x3 : Int) : World :=
 ((((w.setCell ⟨b, 0, none⟩ (.bool f)).setCell ⟨b, 1, none⟩ (.int .i64 x0)).setCell ⟨b, 2, none⟩ (.int .i64 x1)).setCell ⟨b, 3, none⟩ (.int .i64 x2)).setCell ⟨b, 4, none⟩ (.int .i64 x3)
theorem set_other {w : World} {b i j : Nat} {u : Value} (h : i ≠ j) : (w.setCell ⟨b, i, none⟩ u).cell? ⟨b, j, none⟩ = w.cell? ⟨b, j, none⟩ := World.cell?_setCell_other _ _ _ _ (fun e => h (by cases e; rfl))
structure Five (w : World) (b : Nat) (f : Bool) (x0 x1 x2 x3 : Int) : Prop where
 c0 : w.cell? ⟨b, 0, none⟩ = some (.bool f)
 c1 : w.cell? ⟨b, 1, none⟩ = some (.int .i64 x0)
 c2 : w.cell? ⟨b, 2, none⟩ = some (.int .i64 x1)
 c3 : w.cell? ⟨b, 3, none⟩ = some (.int .i64 x2)
 c4 : w.cell? ⟨b, 4, none⟩ = some (.int .i64 x3)
theorem five_cells {w : World} {b : Nat} {f : Bool} {x0 x1 x2 x3 : Int} (h : ∀ j, j < 5 → ∃ u, w.cell? ⟨b, j, none⟩ = some u) : Five (five w b f x0 x1 x2 x3) b f x0 x1 x2 x3 := by
 obtain ⟨t0, e0⟩ := h 0 (by decide)
 obtain ⟨t1, e1⟩ := h 1 (by decide)
 obtain ⟨t2, e2⟩ := h 2 (by decide)
 obtain ⟨t3, e3⟩ := h 3 (by decide)
 obtain ⟨t4, e4⟩ := h 4 (by decide)
 unfold five
 refine ⟨?_, ?_, ?_, ?_, ?_⟩
 · rw [set_other (by decide), set_other (by decide), set_other (by decide), set_other (by decide)]
   exact World.cell?_setCell_same _ _ _ e0
 · rw [set_other (by decide), set_other (by decide), set_other (by decide)]
   exact World.cell?_setCell_same _ _ _ (by rw [set_other (by decide)]; exact e1)
 · rw [set_other (by decide), set_other (by decide)]
   exact World.cell?_setCell_same _ _ _ (by rw [set_other (by decide), set_other (by decide)]; exact e2)
 · rw [set_other (by decide)]
   exact World.cell?_setCell_same _ _ _ (by rw [set_other (by decide), set_other (by decide), set_other (by decide)]; exact e3)
 · exact World.cell?_setCell_same _ _ _ (by rw [set_other (by decide), set_other (by decide), set_other (by decide), set_other (by decide)]; exact e4)
theorem five_below {w w' : World} {b B : Nat} (f : Bool) (x0 x1 x2 x3 : Int) (hB : B ≤ b) (h : Below B w w') : Below B w (five w' b f x0 x1 x2 x3) :=
 ((((h.setCell (p := ⟨b, 0, none⟩) hB _).setCell (p := ⟨b, 1, none⟩) hB _).setCell (p := ⟨b, 2, none⟩) hB _).setCell (p := ⟨b, 3, none⟩) hB _).setCell (p := ⟨b, 4, none⟩) hB _
theorem five_lies {w : World} {base : Option Addr} {sz n c b B : Nat} {vs : List Value} {f : Bool} {x0 x1 x2 x3 : Int} (hf : Fresh B base) (hb : b < B) (h : Lies w sz base n c vs) : Lies (five w b f x0 x1 x2 x3) sz base n c vs :=
 ((((h.set hf (p := ⟨b, 0, none⟩) hb _).set hf (p := ⟨b, 1, none⟩) hb _).set hf (p := ⟨b, 2, none⟩) hb _).set hf (p := ⟨b, 3, none⟩) hb _).set hf (p := ⟨b, 4, none⟩) hb _
theorem run_results (tmps : Array Value) (b : Nat) (w : World) {f : Bool} {x0 x1 x2 x3 : Int} (h4 : tmps.getD 4 undef = .pointer (some ⟨b, 0, none⟩)) (h : Five w b f x0 x1 x2 x3) :
   (results Tryz.f83 tmps).run Tryz.prog w = .ok (.tuple #[.agg #[.bool f, .int .i64 x0, .int .i64 x1, .int .i64 x2, .int .i64 x3], tmps.getD 5 undef, tmps.getD 6 undef]) w := by
 have h4' : tmps[4]?.getD undef = .pointer (some ⟨b, 0, none⟩) := by simpa using h4
 simp [results, Tryz.results83, go_sem, h4', h.c0, h.c1, h.c2, h.c3, h.c4]
theorem result_box {wr : World} {b n : Nat} {o : Obj} (h : ∀ j, j < 5 → wr.frozen? ⟨b, j, none⟩ = false ∧ ∃ u, wr.cell? ⟨b, j, none⟩ = some u) : ∀ j, j < 5 → ∃ u, ((wr.alloc o).drewN n).cell? ⟨b, j, none⟩ = some u := fun j hj => by
 obtain ⟨_, u, h2⟩ := h j hj
 exact ⟨u, cell_drewN n (cell_past o h2)⟩
theorem grow_box {w : World} {o : Obj} (n : Nat) : Below w.heap.size w ((w.alloc o).drewN n) := below_drewN ((Below.refl _ _).alloc (Nat.le_refl _) _) n
theorem Keeps.start (w : World) (t u : Nat) : Keeps w (((w.alloc (.cells #[.int .i64 0, .int .i64 0, .int .i64 0, .int .i64 0] t)).alloc (.map #[] 0)).alloc (.cells #[.map (some (w.heap.size + 1))] u)) 0 (fun _ => 0) (fun _ => none) := by
 have hreg : Regs (w.alloc (.cells #[.int .i64 0, .int .i64 0, .int .i64 0, .int .i64 0] t)) w.heap.size (fun _ => 0) := by
   refine ⟨fun i hi => ?_, fun i _ => World.frozen?_alloc_at _ _ _ _ rfl⟩
   rw [World.cell?_alloc_at _ _ _ _ rfl]
   have : i = 0 ∨ i = 1 ∨ i = 2 ∨ i = 3 := by omega
   rcases this with rfl | rfl | rfl | rfl <;> rfl
 refine ⟨(hreg.alloc _).alloc _, ?_, ?_, (((Below.refl _ _).alloc (Nat.le_refl _) _).alloc (by simp) _).alloc (by simp; omega) _⟩
 · rw [World.cell?_alloc_at _ _ _ _ (by simp)]; rfl
 · have := (MapIs.made (w.alloc (.cells #[.int .i64 0, .int .i64 0, .int .i64 0, .int .i64 0] t))).alloc (.cells #[.map (some (w.heap.size + 1))] u)
   rw [World.size_alloc] at this
   exact this.ext fun k => rfl


def Ran (w w' : World) (v : ByteArray → Int) (W : List ByteArray) (C : List Ins) (e : Ending) : Prop :=
 ∃ (r : Nat → Int) (m : Made) (f : Bool) (vb : Option Addr) (vn vc : Nat) (kb : Option Addr) (kn kc : Nat), exec v C 0 zeroR zeroM = (r, m, f) ∧
   e = .returned (.tuple #[.agg #[.bool f, .int .i64 (r 0), .int .i64 (r 1), .int .i64 (r 2), .int .i64 (r 3)], .slice vb vn vc, .slice kb kn kc]) ∧
   Lies w' 4 vb vn vc (verCells (if f then [] else vers m W)) ∧ Texts w' kb kn kc (keysOf (if f then [] else vers m W)) ∧ Below w.heap.size w w'

set_option maxHeartbeats 4000000 in
set_option maxRecDepth 100000 in
theorem run_calls (R W : List ByteArray) (C : List Ins) (rb : Option Addr) (rn rc : Nat) (wb : Option Addr) (wn wc : Nat) (cb : Option Addr) (cn cc : Nat) (F : Nat) (caps : Array Value) (v : ByteArray → Int) (w : World)
   (hd : DeedIn w rb rn rc wb wn wc cb cn cc R W C) (hr : SmallT R) (hw : SmallT W) (hright : wDeed R W C = 0) (hcf : Entered F) (hv : ∀ k, k ∈ R → Tells w F caps k (v k)) :
   Calls Tryz.prog 83 #[.agg #[.slice rb rn rc, .slice wb wn wc, .slice cb cn cc], .func (.func F) #[] caps] w fun e w' => Ran w w' v W C e := by
 have hmf : ∀ (fn : Fn) (first cap : Array Value) (w : World), (Instr.makeFunc fn first cap).run Tryz.prog w = .ok (.func fn first cap) w := fun _ _ _ _ => rfl
 have hmm := @run_makeMap Tryz.prog
 have HRT := hid (right_deed hright)
 have hn := Codes.count hd.cd
 have hc12 : cn ≤ 12 := by rw [hn]; exact HRT.out.c
 have HD := hid hd
 have HN := hid hn
 have HV := hid hv
 have HCF := hid hcf
 have HSR := hid hr
 have HSW := hid hw
 have HW := hid (fun W' hb => wrongDeed_calls R W C rb rn rc wb wn wc cb cn cc W' (hd.below hb) hr hw)
 rw [hright] at HW
 clear hd hr hw hright hcf hv hn
 go_enter Tryz.func83, Tryz.ntmps83
 go_wp2_with fail
 refine (HW.out _ ((((Below.refl _ _).alloc (Nat.le_refl _) _).alloc (by simp) _).alloc (by simp; omega) _)).mono ?_
 rintro e w1 ⟨rfl, hb1⟩
 have x0 := kept_cell hb1 (box_past _ (box_past _ (box_cell w _ 44 0 (.slice rb rn rc) rfl)))
 have x1 := kept_cell hb1 (box_past _ (box_past _ (box_cell w _ 44 1 (.slice wb wn wc) rfl)))
 have x2 := kept_cell hb1 (box_past _ (box_past _ (box_cell w _ 44 2 (.slice cb cn cc) rfl)))
 have y0 := kept_cell hb1 (box_past _ (box_cell (w.alloc _) _ 141 0 (.func (.func F) #[] caps) rfl))
 have z : ∀ j, j < 5 → w1.frozen? ⟨w.heap.size + 2, j, none⟩ = false ∧ ∃ u, w1.cell? ⟨w.heap.size + 2, j, none⟩ = some u := by
   intro j hj
   have hlt : (w.heap.size + 2) < (((w.alloc (.cells #[.slice rb rn rc, .slice wb wn wc, .slice cb cn cc] 44)).alloc (.cells #[.func (.func F) #[] caps] 141)).alloc (.cells #[.bool false, .int .i64 0, .int .i64 0, .int .i64 0, .int .i64 0] 83)).heap.size := by simp
   rw [hb1.frozen (p := ⟨w.heap.size + 2, j, none⟩) hlt, hb1.cell (p := ⟨w.heap.size + 2, j, none⟩) hlt]
   rw [World.frozen?_alloc_at _ _ _ _ (by simp), World.cell?_alloc_at _ _ _ _ (by simp)]
   refine ⟨rfl, ?_⟩
   have : j = 0 ∨ j = 1 ∨ j = 2 ∨ j = 3 ∨ j = 4 := by omega
   rcases this with rfl | rfl | rfl | rfl | rfl <;> exact ⟨_, rfl⟩
 rw [World.size_alloc] at y0
 have HX := hid (And.intro x0 (And.intro x1 (And.intro x2 y0)))
 have HZ := hid z
 have HB1 := hid (below_deep ((((Below.refl _ w).alloc (Nat.le_refl _) _).alloc (by simp) _).alloc (by simp; omega) _) hb1)
 have hsz : w.heap.size + 3 ≤ w1.heap.size := by have := hb1.size; simp at this; omega
 clear x0 x1 x2 y0 z hb1 HW
 go_wp2_with fail
 go_loopw [10] (fun i wr => ∃ (k q : Nat) (r : Nat → Int) (m : Made), k ≤ cn ∧ q ≤ k ∧ i = .int .i64 k ∧ Hid (exec v (C.drop k) 0 r m = exec v C 0 zeroR zeroM) ∧ Hid (Keeps w1 wr q r m)) (fun i _ => cn - (intOf i).toNat)
 case atStart => exact ⟨0, 0, _, _, Nat.zero_le _, Nat.le_refl _, rfl, rfl, Keeps.start _ _ _⟩
 case round =>
   obtain ⟨k, q, r, m, hk, hq, rfl, HE, HK⟩ := hrel
   have HD1 := hid ((HD.out.below HB1.out).below HK.out.old)
   have z1 := kept_cell HK.out.old HX.out.2.1
   have z2 := kept_cell HK.out.old HX.out.2.2.1
   have z3 := kept_cell HK.out.old HX.out.2.2.2
   have hszr : w1.heap.size + 3 ≤ wr.heap.size := by
     have := World.block_lt_of_cell? _ _ HK.out.place
     simp at this; omega
   have l0 : w1.heap.size < wr.heap.size := by omega
   have l1 : w1.heap.size + 1 + 1 < wr.heap.size := by omega
   have l2 : w.heap.size < wr.heap.size := by omega
   have l3 : w.heap.size + 1 < wr.heap.size := by omega
   have l4 : w.heap.size + 1 + 1 < wr.heap.size := by omega
   by_cases hlt : k < cn
   · have hkl : k < C.length := by rw [← HN.out]; exact hlt
     have hi : (k : Int) < (cn : Int) := by omega
     have HI := hid (right_instr (HRT.out.i k hkl))
     rw [← HN.out] at HI
     rw [drop_at hkl] at HE
     rcases HD1.out.cd.run with h | ⟨b, o, rfl, h1⟩
     · omega
     have hbw : b < wr.heap.size := h1.lt (by rw [insCells_length]; omega)
     obtain ⟨c0, c1, c2, c3, c4⟩ := Codes.cells h1 hkl
     clear h1
     rcases hx : C.getD k default with ⟨kd, a, bb, nn, sk⟩
     rw [hx] at c0 c1 c2 c3 c4 HI HE
     clear hx
     simp only [Ins.kind, Ins.a, Ins.b, Ins.n, Ins.key] at c0 c1 c2 c3 c4
     obtain ⟨a, rfl⟩ : ∃ a' : Nat, a = a' := ⟨a.toNat, by have := HI.out.a0; simp [Ins.a] at this; omega⟩
     obtain ⟨bb, rfl⟩ : ∃ b' : Nat, bb = b' := ⟨bb.toNat, by have := HI.out.b0; simp [Ins.b] at this; omega⟩
     have ha : (a : Int) < 4 := by have := HI.out.a4; simpa [Ins.a] using this
     have hbb : (bb : Int) < 4 := by have := HI.out.b4; simpa [Ins.b] using this
     have ra := HK.out.regs.at_ a (by omega)
     have rbv := HK.out.regs.at_ bb (by omega)
     have fa := HK.out.regs.free a (by omega)
     have hkd : kd = 1 ∨ kd = 2 ∨ kd = 3 ∨ kd = 4 ∨ kd = 5 ∨ kd = 6 ∨ kd = 7 ∨ kd = 8 ∨ kd = 9 := by
       have h1 := HI.out.lo
       have h2 := HI.out.hi
       simp only [Ins.kind] at h1 h2
       omega
     rcases hkd with rfl | rfl | rfl | rfl | rfl | rfl | rfl | rfl | rfl
     · have HE2 : Hid (exec v (C.drop (k + 1)) 0 (setR r a (look v m sk)) m = exec v C 0 zeroR zeroM) := by
         show _ = _
         rw [← HE.out]; simp [exec, Ins.kind, Ins.a, Ins.key]
       have hin := has_iff.1 (HI.out.load rfl)
       simp only [Ins.key] at hin
       have HHC := hid (fun W' (hb : Below wr.heap.size wr W') => has_calls F caps sk v m (w1.heap.size + 1 + 1) 0 q (w.heap.size + 1) 0 (w1.heap.size + 1) W' HCF.out (HSR.out _ hin) ((HV.out sk hin).below (below_deep HB1.out (below_deep HK.out.old hb))) (HK.out.deep hb).place (kept_cell hb z3) (HK.out.deep hb).map)
       clear hin
       go_wp2
       go_quiet (fail)
       go_wp2
       go_region_with (go_at_call 101; refine (HHC.out _ (grow_box _)).mono ?_; rintro e w2 ⟨rfl, hb2⟩; have p1 := kept_cell hb2 (cell_drewN _ (box_cell wr _ 72 1 (.int .i64 a) rfl)); have HK2 := hid (HK.out.deep (below_deep (grow_box _) hb2)); have p2 := HK2.out.regs.at_ a (by omega); have p3 := HK2.out.regs.free a (by omega); clear hb2)
       all_goals
         go_wp2
         go_roundw
         case rel => exact ⟨k + 1, q, _, _, by omega, by omega, by go_num, HE2, HK2.out.set (by omega) _⟩
         case measure => simp [intOf]; omega
     · have HE2 : Hid (exec v (C.drop (k + 1)) 0 (setR r a nn) m = exec v C 0 zeroR zeroM) := by
         show _ = _
         rw [← HE.out]; simp [exec, Ins.kind, Ins.a, Ins.n]
       go_wp2
       go_quiet (fail)
       go_wp2
       go_roundw
       case rel => exact ⟨k + 1, q, _, _, by omega, by omega, by go_num, HE2, (HK.out.deep (grow_box _)).set (by omega) _⟩
       case measure => simp [intOf]; omega
     · have HE2 : Hid (exec v (C.drop (k + 1)) 0 (setR r a (rnd (r a + r bb))) m = exec v C 0 zeroR zeroM) := by
         show _ = _
         rw [← HE.out]; simp [exec, Ins.kind, Ins.a, Ins.b]
       go_wp2
       go_quiet (fail)
       go_wp2
       go_region_with (go_at_call 103; refine (round_calls _ _).mono ?_; rintro e w2 ⟨rfl, rfl⟩)
       all_goals
         go_wp2
         go_roundw
         case rel => exact ⟨k + 1, q, _, _, by omega, by omega, by go_num, HE2, (HK.out.deep (grow_box _)).set (by omega) _⟩
         case measure => simp [intOf]; omega
     · have HE2 : Hid (exec v (C.drop (k + 1)) 0 (setR r a (rnd (r a - r bb))) m = exec v C 0 zeroR zeroM) := by
         show _ = _
         rw [← HE.out]; simp [exec, Ins.kind, Ins.a, Ins.b]
       go_wp2
       go_quiet (fail)
       go_wp2
       go_region_with (go_at_call 103; refine (round_calls _ _).mono ?_; rintro e w2 ⟨rfl, rfl⟩)
       all_goals
         go_wp2
         go_roundw
         case rel => exact ⟨k + 1, q, _, _, by omega, by omega, by go_num, HE2, (HK.out.deep (grow_box _)).set (by omega) _⟩
         case measure => simp [intOf]; omega
     · have HE2 : Hid (exec v (C.drop (k + 1)) 0 (setR r a (rnd (r a * r bb))) m = exec v C 0 zeroR zeroM) := by
         show _ = _
         rw [← HE.out]; simp [exec, Ins.kind, Ins.a, Ins.b]
       go_wp2
       go_quiet (fail)
       go_wp2
       go_region_with (go_at_call 103; refine (round_calls _ _).mono ?_; rintro e w2 ⟨rfl, rfl⟩)
       all_goals
         go_wp2
         go_roundw
         case rel => exact ⟨k + 1, q, _, _, by omega, by omega, by go_num, HE2, (HK.out.deep (grow_box _)).set (by omega) _⟩
         case measure => simp [intOf]; omega
     · have HE2 : Hid (exec v (C.drop (k + 1)) 0 r (setM m sk (some (r a))) = exec v C 0 zeroR zeroM) := by
         show _ = _
         rw [← HE.out]; simp [exec, Ins.kind, Ins.a, Ins.key]
       have hin := has_iff.1 (HI.out.write (by simp [Ins.kind]))
       simp only [Ins.key] at hin
       have HSK := hid (HSW.out _ hin)
       have HQ : Hid (q < maxLen) := by show _ < _; unfold maxLen; omega
       have p0 := HK.out.place
       clear hin
       go_wp2
       go_quiet (fail)
       rename_i nq
       have HMM := hid (HK.out.deep (grow_box (o := .cells #[.int .i64 6, .int .i64 a, .int .i64 bb, .int .i64 nn, .string sk] 72) nq)).map
       go_wp2_with (at_mapUpdate; refine wpList_put _ rfl _ _ _ 142 rfl 78 Tryz.underlying142 (w1.heap.size + 1) q (verMap m) rfl HMM.out HQ.out sk HSK.out (.agg #[.int .i64 0, .bool true, .bool true, .int .i64 (r a)]) rfl rfl ?_)
       intro w2 hm2 hg2
       have HK2 := hid ((HK.out.deep (grow_box _)).put (o := some (r a)) hm2 hg2)
       clear hm2 hg2
       go_wp2
       go_roundw
       case rel => exact ⟨k + 1, q + 1, _, _, by omega, by omega, by go_num, HE2, HK2⟩
       case measure => simp [intOf]; omega
     · have HE2 : Hid (exec v (C.drop (k + 1)) 0 r (setM m sk none) = exec v C 0 zeroR zeroM) := by
         show _ = _
         rw [← HE.out]; simp [exec, Ins.kind, Ins.key]
       have hin := has_iff.1 (HI.out.write (by simp [Ins.kind]))
       simp only [Ins.key] at hin
       have HSK := hid (HSW.out _ hin)
       have HQ : Hid (q < maxLen) := by show _ < _; unfold maxLen; omega
       have p0 := HK.out.place
       clear hin
       go_wp2
       go_quiet (fail)
       rename_i nq
       have HMM := hid (HK.out.deep (grow_box (o := .cells #[.int .i64 7, .int .i64 a, .int .i64 bb, .int .i64 nn, .string sk] 72) nq)).map
       go_wp2_with (at_mapUpdate; refine wpList_put _ rfl _ _ _ 142 rfl 78 Tryz.underlying142 (w1.heap.size + 1) q (verMap m) rfl HMM.out HQ.out sk HSK.out (.agg #[.int .i64 0, .bool true, .bool false, .int .i64 0]) rfl rfl ?_)
       intro w2 hm2 hg2
       have HK2 := hid ((HK.out.deep (grow_box _)).put (o := none) hm2 hg2)
       clear hm2 hg2
       go_wp2
       go_roundw
       case rel => exact ⟨k + 1, q + 1, _, _, by omega, by omega, by go_num, HE2, HK2⟩
       case measure => simp [intOf]; omega
     · have HE2 : Hid (exec v (C.drop (k + 1)) (if r a ≤ 0 then nn.toNat else 0) r m = exec v C 0 zeroR zeroM) := by
         show _ = _
         rw [← HE.out]; simp [exec, Ins.kind, Ins.a, Ins.n]
       have hsk := HI.out.skip rfl
       simp only [Ins.n] at hsk
       by_cases h0 : r a ≤ 0
       · rw [if_pos h0, exec_drop, List.drop_drop] at HE2
         obtain ⟨nn, rfl⟩ : ∃ n' : Nat, nn = n' := ⟨nn.toNat, by omega⟩
         have HE3 : Hid (exec v (C.drop (k + nn + 1)) 0 r m = exec v C 0 zeroR zeroM) := by
           show _ = _
           rw [← HE2.out]; congr 2; simp; omega
         go_wp2
         go_quiet (fail)
         go_wp2
         go_roundw
         case rel => exact ⟨k + nn + 1, q, _, _, by omega, by omega, by go_num, HE3, HK.out.deep (grow_box _)⟩
         case measure => simp [intOf]; omega
       · rw [if_neg h0] at HE2
         go_wp2
         go_quiet (fail)
         go_wp2
         go_roundw
         case rel => exact ⟨k + 1, q, _, _, by omega, by omega, by go_num, HE2, HK.out.deep (grow_box _)⟩
         case measure => simp [intOf]; omega
     · by_cases h0 : r a < 0
       · have HE2 : Hid (exec v C 0 zeroR zeroM = (r, m, true)) := by
           show _ = _
           rw [← HE.out]; simp [exec, Ins.kind, Ins.a, h0]
         have d0 := HK.out.regs.at_ 0 (by decide)
         have d1 := HK.out.regs.at_ 1 (by decide)
         have d2 := HK.out.regs.at_ 2 (by decide)
         have d3 := HK.out.regs.at_ 3 (by decide)
         obtain ⟨f0, t0, e0⟩ := result_cell HK.out.old HZ.out 0 (by decide)
         obtain ⟨f1, t1, e1⟩ := result_cell HK.out.old HZ.out 1 (by decide)
         obtain ⟨f2, t2, e2⟩ := result_cell HK.out.old HZ.out 2 (by decide)
         obtain ⟨f3, t3, e3⟩ := result_cell HK.out.old HZ.out 3 (by decide)
         obtain ⟨f4, t4, e4⟩ := result_cell HK.out.old HZ.out 4 (by decide)
         have HZR := hid (result_cell HK.out.old HZ.out)
         go_wp2
         go_quiet (fail)
         go_wp2
         (try simp only [Exit.inBlock, Exit.then])
         refine bodyPost_ret (run_results _ (w.heap.size + 1 + 1) _ rfl (five_cells (result_box HZR.out))) rfl ?_
         exact ⟨r, m, true, none, 0, 0, none, 0, 0, HE2.out, rfl, Lies.none _ _, Lies.none _ _, five_below _ _ _ _ _ (by omega) (below_deep (below_deep HB1.out HK.out.old) (grow_box _))⟩
       · have HE2 : Hid (exec v (C.drop (k + 1)) 0 r m = exec v C 0 zeroR zeroM) := by
           show _ = _
           rw [← HE.out]; simp [exec, Ins.kind, Ins.a, h0]
         go_wp2
         go_quiet (fail)
         go_wp2
         go_roundw
         case rel => exact ⟨k + 1, q, _, _, by omega, by omega, by go_num, HE2, HK.out.deep (grow_box _)⟩
         case measure => simp [intOf]; omega
   · obtain rfl : k = cn := by omega
     have HE2 : Hid (exec v C 0 zeroR zeroM = (r, m, false)) := by
       show _ = _
       rw [← HE.out, List.drop_eq_nil_of_le (by rw [← HN.out]; exact Nat.le_refl _)]; rfl
     have p0 := HK.out.place
     have HTN := hid (inTurn_calls m W (w1.heap.size + 1) q wb wn wc wr HK.out.map HD1.out.tw (wKeys_len HRT.out.w) HSW.out)
     go_wp2_with fail
     refine HTN.out.mono ?_
     rintro e w2 ⟨vb, vn, vc, kb, kn, kc, rfl, hl1, hl2, hf1, hf2, hb2⟩
     have HK2 := hid (HK.out.deep hb2)
     have d0 := HK2.out.regs.at_ 0 (by decide)
     have d1 := HK2.out.regs.at_ 1 (by decide)
     have d2 := HK2.out.regs.at_ 2 (by decide)
     have d3 := HK2.out.regs.at_ 3 (by decide)
     obtain ⟨f0, t0, e0⟩ := result_cell HK2.out.old HZ.out 0 (by decide)
     obtain ⟨f1, t1, e1⟩ := result_cell HK2.out.old HZ.out 1 (by decide)
     obtain ⟨f2, t2, e2⟩ := result_cell HK2.out.old HZ.out 2 (by decide)
     obtain ⟨f3, t3, e3⟩ := result_cell HK2.out.old HZ.out 3 (by decide)
     obtain ⟨f4, t4, e4⟩ := result_cell HK2.out.old HZ.out 4 (by decide)
     have HZR := hid (result_cell HK2.out.old HZ.out)
     have HL1 := hid hl1
     have HL2 := hid hl2
     have HF1 := hid hf1
     have HF2 := hid hf2
     have HB2 := hid (below_deep (below_deep HB1.out HK.out.old) hb2)
     clear hl1 hl2 hb2 hf1 hf2
     go_wp2
     (try simp only [Exit.inBlock, Exit.then])
     refine bodyPost_ret (run_results _ (w.heap.size + 1 + 1) _ rfl (five_cells (fun j hj => (HZR.out j hj).2))) rfl ?_
     exact ⟨r, m, false, vb, vn, vc, kb, kn, kc, HE2.out, rfl, five_lies HF1.out (by omega) HL1.out, five_lies HF2.out (by omega) HL2.out, five_below _ _ _ _ _ (by omega) HB2.out⟩
end Go.Proofs.YtlhaeeenkgkdaaaGreatDoor
