/-
  sort.Search over whatever closure, of what is first false and then true.
  find, below, lastBelow and ownVersions of the program: the place of a key in chains that rise, how many versions are ahead of a deed, the last one of them, and a copy of versions.
-/
import Derived.Test.YtagangiilcicpaeGreatDeedTurn
import Derived.WalkSpells
import Derived.WalkLawsBesides
import Derived.Below
import Derived.LoopTactic
import Derived.Outline
import Derived.Test.YtagangiilcicpaeGreatLies
import Derived.Test.YtagangiilcicpaeGreatDeedSame
import Derived.Test.YtagangiilcicpaeGreatChainFind
import Derived.Test.YtagangiilcicpaeGreatRefPut
namespace Go.Proofs.YtagangiilcicpaeGreat
open Go.RowKit

set_option maxHeartbeats 1000000 in
theorem searchF_calls (F : Nat) (caps : Array Value) (n : Nat) (p : Nat → Bool) (w : World) (hcf : Entered F) (hn : n < 4611686018427387904)
    (hf : ∀ m i, i < n → Calls Tryz.prog F (#[.int .i64 i] ++ caps) (w.drewN m) fun e w' => e = .returned (.bool (p i)) ∧ ∃ q, w' = w.drewN q)
    (hmono : ∀ a b, a ≤ b → b < n → p a = true → p b = true) :
    Calls Tryz.prog 107 #[.int .i64 n, .func (.func F) #[] caps] w fun e w' =>
      ∃ m : Nat, e = .returned (.int .i64 m) ∧ m ≤ n ∧ (∀ t, t < m → p t = false) ∧ (∀ t, m ≤ t → t < n → p t = true) ∧ ∃ q, w' = w.drewN q := by
  have HF := hid hf
  have HM := hid hmono
  unfold Entered at hcf
  clear hf hmono
  go_enter Tryz.func107, Tryz.ntmps107
  go_wp2
  go_loopw [5, 6] (fun i j wr => ∃ lo hi q : Nat, i = .int .i64 lo ∧ j = .int .i64 hi ∧ lo ≤ hi ∧ hi ≤ n ∧ wr = w.drewN q ∧
    Hid ((∀ t, t < lo → p t = false) ∧ (∀ t, hi ≤ t → t < n → p t = true))) (fun i j _ => (intOf j).toNat - (intOf i).toNat)
  case atStart => exact ⟨0, n, 0, rfl, rfl, Nat.zero_le _, Nat.le_refl _, rfl, ⟨fun t ht => absurd ht (Nat.not_lt_zero _), fun t h1 h2 => by omega⟩⟩
  case round =>
    obtain ⟨lo, hi, q, rfl, rfl, hlh, hin, rfl, I⟩ := hrel
    by_cases hlt : lo < hi
    · have hc := HF.out q ((lo + hi) / 2) (by omega)
      rw [show (((lo + hi) / 2 : Nat) : Int) = ((lo : Int) + (hi : Int)) / 2 by omega] at hc
      cases hp : p ((lo + hi) / 2) <;> rw [hp] at hc
      · have HP : Hid (p ((lo + hi) / 2) = false) := hp
        clear hp
        have HC := hid hc
        clear hc
        go_wp2_with fail
        refine HC.out.mono ?_
        rintro e w' ⟨rfl, nq, rfl⟩
        go_wp2
        go_roundw
        case measure => simp [intOf]; omega
        case rel =>
          refine ⟨(lo + hi) / 2 + 1, hi, nq, by rw [show ((lo : Int) + (hi : Int)) / 2 + 1 = (((lo + hi) / 2 + 1 : Nat) : Int) by omega], rfl, by omega, hin, rfl, ⟨fun t ht => ?_, I.out.2⟩⟩
          cases h : p t with
          | false => rfl
          | true => have := HM.out t ((lo + hi) / 2) (by omega) (by omega) h; rw [HP.out] at this; cases this
      · have HP : Hid (p ((lo + hi) / 2) = true) := hp
        clear hp
        have HC := hid hc
        clear hc
        go_wp2_with fail
        refine HC.out.mono ?_
        rintro e w' ⟨rfl, nq, rfl⟩
        go_wp2
        go_roundw
        case measure => simp [intOf]; omega
        case rel => exact ⟨lo, (lo + hi) / 2, nq, rfl, by rw [show ((lo : Int) + (hi : Int)) / 2 = (((lo + hi) / 2 : Nat) : Int) by omega], by omega, by omega, rfl, ⟨I.out.1, fun t ht htn => HM.out ((lo + hi) / 2) t ht htn HP.out⟩⟩
    · obtain rfl : hi = lo := by omega
      go_wp2
      go_ret
      exact ⟨hi, rfl, hin, I.out.1, I.out.2, q, rfl⟩
end Go.Proofs.YtagangiilcicpaeGreat

namespace Go.Proofs.YtagangiilcicpaeGreat
open Go.RowKit

theorem versClo_in : Entered 111 := fun _ _ => by kernel_rfl
theorem keyClo_in : Entered 108 := fun _ _ => by kernel_rfl

set_option maxHeartbeats 400000 in
/-- The closure that below hands to the search: is version i not ahead? -/
theorem versClo_calls (b o n c bx bk i : Nat) (y by_ : Int) (W : World) (hi : i < n) (ha : W.cell? ⟨bx, 0, none⟩ = some (.slice (some ⟨b, o, none⟩) n c))
    (hk : W.cell? ⟨bk, 0, none⟩ = some (.int .i64 by_)) (hc : W.cell? ⟨b, o + i * 4, none⟩ = some (.int .i64 y)) :
    Calls Tryz.prog 111 #[.int .i64 i, .pointer (some ⟨bx, 0, none⟩), .pointer (some ⟨bk, 0, none⟩)] W fun e w' => e = .returned (.bool (decide (by_ ≤ y))) ∧ ∃ q, w' = W.drewN q := by
  have hiz : (i : Int) < (n : Int) := by omega
  go_enter Tryz.func111, Tryz.ntmps111
  go_wp2
  go_quiet (fail)
  go_wp2
  go_ret
  exact ⟨rfl, _, rfl⟩

set_option maxHeartbeats 400000 in
/-- The closure that find hands to the search: is chain i's key not below k? -/
theorem keyClo_calls (b o n c bx bk i : Nat) (ki k : ByteArray) (W : World) (hi : i < n) (ha : W.cell? ⟨bx, 0, none⟩ = some (.slice (some ⟨b, o, none⟩) n c))
    (hk : W.cell? ⟨bk, 0, none⟩ = some (.string k)) (hc : W.cell? ⟨b, o + i * 2, none⟩ = some (.string ki)) :
    Calls Tryz.prog 108 #[.int .i64 i, .pointer (some ⟨bx, 0, none⟩), .pointer (some ⟨bk, 0, none⟩)] W fun e w' => e = .returned (.bool (!less ki k)) ∧ ∃ q, w' = W.drewN q := by
  have hiz : (i : Int) < (n : Int) := by omega
  go_enter Tryz.func108, Tryz.ntmps108
  go_wp2
  go_quiet (fail)
  go_wp2
  go_ret
  exact ⟨rfl, _, rfl⟩

theorem two_boxes (w : World) (x y : Value) (t u : TypeId) : Below w.heap.size w ((w.alloc (.cells #[x] t)).alloc (.cells #[y] u)) ∧ ((w.alloc (.cells #[x] t)).alloc (.cells #[y] u)).cell? ⟨w.heap.size, 0, none⟩ = some x ∧ ((w.alloc (.cells #[x] t)).alloc (.cells #[y] u)).cell? ⟨w.heap.size + 1, 0, none⟩ = some y := by
  refine ⟨((Below.refl _ _).alloc (Nat.le_refl _) _).alloc (by simp) _, cell_past _ (cell_box _ _ _), ?_⟩
  have := cell_box (w.alloc (.cells #[x] t)) y u
  rw [World.size_alloc] at this
  exact this

set_option maxHeartbeats 1000000 in
theorem below_calls (l : List Ver) (base : Option Addr) (n c : Nat) (by_ : Int) (w : World) (hn : n < 4611686018427387904) (hr : Rise l) (ha : Vers w base n c l) :
    Calls Tryz.prog 98 #[.slice base n c, .int .i64 by_] w fun e w' => e = .returned (.int .i64 (belV by_ l)) ∧ Below w.heap.size w w' := by
  have hmf : ∀ (fn : Fn) (first cap : Array Value) (w : World), (Instr.makeFunc fn first cap).run Tryz.prog w = .ok (.func fn first cap) w := fun _ _ _ _ => rfl
  have HN := hid (Vers.count ha)
  obtain ⟨W, hW⟩ : ∃ W, W = (w.alloc (.cells #[.slice base n c] 107)).alloc (.cells #[.int .i64 by_] 3) := ⟨_, rfl⟩
  obtain ⟨hbel, ca, ck⟩ := two_boxes w (.slice base n c) (.int .i64 by_) 107 3
  rw [← hW] at hbel ca ck
  have hV := ha.below (by decide) hbel
  have HS := hid (searchF_calls 111 #[.pointer (some ⟨w.heap.size, 0, none⟩), .pointer (some ⟨w.heap.size + 1, 0, none⟩)] n (fun i => decide (by_ ≤ (l.getD i default).by_)) W versClo_in hn
    (fun m i hi => by
      rcases hV.run with h | ⟨b, o, rfl, hrun⟩
      · omega
      obtain ⟨c0, _⟩ := Vers.cells hrun (i := i) (by rw [← HN.out]; exact hi)
      exact (versClo_calls b o n c w.heap.size (w.heap.size + 1) i _ by_ (W.drewN m) hi (cell_drewN m ca) (cell_drewN m ck) (cell_drewN m c0)).mono fun e w' ⟨he, q, hq⟩ => ⟨he, m + q, by rw [hq, World.drewN_drewN]⟩)
    (fun x y hxy hy hx => by
      by_cases e : x = y
      · subst e; exact hx
      · have h2 := rise_lt hr (i := x) (j := y) (by omega) (by rw [← HN.out]; exact hy)
        simp only [decide_eq_true_eq] at hx ⊢
        omega))
  have HB := hid hbel
  clear ca ck hbel hV ha hr
  subst hW
  go_enter Tryz.func98, Tryz.ntmps98
  go_wp2_with fail
  refine HS.out.mono ?_
  rintro e w' ⟨m, rfl, hm, f1, f2, q, rfl⟩
  have hpos : m = belV by_ l := belV_is (by rw [← HN.out]; exact hm) (fun t ht => by have := f1 t ht; simp only [decide_eq_false_iff_not] at this; omega)
    (fun h => by have := f2 m (Nat.le_refl _) (by rw [HN.out]; exact h); simp only [decide_eq_true_eq] at this; omega)
  have HP := hid hpos
  clear hpos f1 f2
  go_wp2
  go_ret
  exact ⟨ret_int (show ((m : Nat) : Int) = ((belV by_ l : Nat) : Int) by rw [HP.out]), below_drewN HB.out _⟩

set_option maxHeartbeats 1000000 in
theorem findC_calls (L : List Chn) (base : Option Addr) (n c : Nat) (k : ByteArray) (w : World) (hn : n < 4611686018427387904) (hs : SrtC L) (ha : ChainsIn w base n c L) :
    Calls Tryz.prog 91 #[.slice base n c, .string k] w fun e w' => e = .returned (.tuple #[.int .i64 (posC k L), .bool (isAtC k L)]) ∧ Below w.heap.size w w' := by
  have hmf : ∀ (fn : Fn) (first cap : Array Value) (w : World), (Instr.makeFunc fn first cap).run Tryz.prog w = .ok (.func fn first cap) w := fun _ _ _ _ => rfl
  have HN := hid ha.len
  obtain ⟨W, hW⟩ : ∃ W, W = (w.alloc (.cells #[.slice base n c] 27)).alloc (.cells #[.string k] 9) := ⟨_, rfl⟩
  obtain ⟨hbel, ca, ck⟩ := two_boxes w (.slice base n c) (.string k) 27 9
  rw [← hW] at hbel ca ck
  have hV := ha.below hbel
  have HS := hid (searchF_calls 108 #[.pointer (some ⟨w.heap.size, 0, none⟩), .pointer (some ⟨w.heap.size + 1, 0, none⟩)] n (fun i => !less (L.getD i default).1 k) W keyClo_in hn
    (fun m i hi => by
      rcases hV.run with h | ⟨b, o, rfl, hrun⟩
      · omega
      obtain ⟨vb, vn, vc, c0, _⟩ := hrun i hi
      exact (keyClo_calls b o n c w.heap.size (w.heap.size + 1) i _ k (W.drewN m) hi (cell_drewN m ca) (cell_drewN m ck) (cell_drewN m c0)).mono fun e w' ⟨he, q, hq⟩ => ⟨he, m + q, by rw [hq, World.drewN_drewN]⟩)
    (fun x y hxy hy hx => by
      by_cases e : x = y
      · subst e; exact hx
      · have h2 := srtC_lt hs (i := x) (j := y) (by omega) (by rw [← HN.out]; exact hy)
        cases h3 : less (L.getD y default).1 k with
        | false => rfl
        | true => rw [less_trans h2 h3] at hx; exact hx))
  have HB := hid hbel
  have HV := hid hV
  have HAT : Hid (isAtC k L = (decide (posC k L < L.length) && decide ((L.getD (posC k L) default).1 = k))) := rfl
  clear ca ck hbel hV ha hs
  subst hW
  go_enter Tryz.func91, Tryz.ntmps91
  go_wp2_with fail
  refine HS.out.mono ?_
  rintro e w' ⟨m, rfl, hm, f1, f2, q, rfl⟩
  have hpos : m = posC k L := posC_is (by rw [← HN.out]; exact hm) (fun t ht => by simpa using f1 t ht) (fun h => by simpa using f2 m (Nat.le_refl _) (by rw [HN.out]; exact h))
  rw [← hpos, ← HN.out] at HAT
  have HP := hid hpos
  clear hpos f1 f2 HS
  by_cases hlt : m < n
  · have hdec : decide ((m : Int) < (n : Int)) = true := by simp; omega
    have hi : (m : Int) < (n : Int) := by omega
    rcases HV.out.run with h | ⟨b, o, rfl, hrun⟩
    · omega
    obtain ⟨vb, vn, vc, c0, _⟩ := hrun m hlt
    have hbw : b < w.heap.size + 1 + 1 := by simpa using World.block_lt_of_cell? _ _ c0
    clear hrun
    generalize (L.getD m default).1 = kk at *
    go_wp2
    go_quiet (fail)
    go_wp2
    go_ret2
    refine ⟨?_, below_drewN (below_drewN HB.out _) _⟩
    rw [HAT.out, ← HP.out]
    by_cases e : kk = k
    · simp [hlt, e]
    · have : ¬ kk.toList = k.toList := fun h => e (toList_inj h)
      simp [hlt, e, this]
  · have hdec : decide ((m : Int) < (n : Int)) = false := by simp; omega
    go_wp2
    go_quiet (fail)
    go_wp2
    go_ret2
    refine ⟨?_, below_drewN (below_drewN HB.out _) _⟩
    rw [HAT.out, ← HP.out]
    simp [hlt]

/-! ### A version in a block of its own -/
structure Four (w : World) (b : Nat) (y : Int) (m h : Bool) (x : Int) : Prop where
  c0 : w.cell? ⟨b, 0, none⟩ = some (.int .i64 y)
  c1 : w.cell? ⟨b, 1, none⟩ = some (.bool m)
  c2 : w.cell? ⟨b, 2, none⟩ = some (.bool h)
  c3 : w.cell? ⟨b, 3, none⟩ = some (.int .i64 x)
theorem Four.below {w w' : World} {b : Nat} {y : Int} {m h : Bool} {x : Int} (k : Four w b y m h x) (hb : Below w.heap.size w w') : Four w' b y m h x := ⟨kept_cell hb k.c0, kept_cell hb k.c1, kept_cell hb k.c2, kept_cell hb k.c3⟩
theorem Four.lt {w : World} {b : Nat} {y : Int} {m h : Bool} {x : Int} (k : Four w b y m h x) : b < w.heap.size := by simpa using World.block_lt_of_cell? _ _ k.c0
theorem Four.box (w : World) (y : Int) (m h : Bool) (x : Int) (t : TypeId) : Four (w.alloc (.cells #[.int .i64 y, .bool m, .bool h, .int .i64 x] t)) w.heap.size y m h x :=
  ⟨box_cell _ _ _ 0 _ rfl, box_cell _ _ _ 1 _ rfl, box_cell _ _ _ 2 _ rfl, box_cell _ _ _ 3 _ rfl⟩
/-- A version is written over another one. -/
theorem Four.put {w : World} {b : Nat} {y : Int} {m h : Bool} {x : Int} (k : Four w b y m h x) (y' : Int) (m' h' : Bool) (x' : Int) :
    Four ((((w.setCell ⟨b, 0, none⟩ (.int .i64 y')).setCell ⟨b, 1, none⟩ (.bool m')).setCell ⟨b, 2, none⟩ (.bool h')).setCell ⟨b, 3, none⟩ (.int .i64 x')) b y' m' h' x' := by
  refine ⟨?_, ?_, ?_, ?_⟩
  · rw [set_off (by decide), set_off (by decide), set_off (by decide)]
    exact World.cell?_setCell_same _ _ _ k.c0
  · rw [set_off (by decide), set_off (by decide)]
    exact World.cell?_setCell_same _ _ _ (by rw [set_off (by decide)]; exact k.c1)
  · rw [set_off (by decide)]
    exact World.cell?_setCell_same _ _ _ (by rw [set_off (by decide), set_off (by decide)]; exact k.c2)
  · exact World.cell?_setCell_same _ _ _ (by rw [set_off (by decide), set_off (by decide), set_off (by decide)]; exact k.c3)
theorem four_below {w w' : World} {B b : Nat} {u0 u1 u2 u3 : Value} (h : Below B w w') (hb : B ≤ b) : Below B w ((((w'.setCell ⟨b, 0, none⟩ u0).setCell ⟨b, 1, none⟩ u1).setCell ⟨b, 2, none⟩ u2).setCell ⟨b, 3, none⟩ u3) :=
  (((h.setCell (p := ⟨b, 0, none⟩) hb _).setCell (p := ⟨b, 1, none⟩) hb _).setCell (p := ⟨b, 2, none⟩) hb _).setCell (p := ⟨b, 3, none⟩) hb _
/-- A block of four cells that may be written. -/
structure Free4 (w : World) (b : Nat) : Prop where
  f0 : w.frozen? ⟨b, 0, none⟩ = false
  f1 : w.frozen? ⟨b, 1, none⟩ = false
  f2 : w.frozen? ⟨b, 2, none⟩ = false
  f3 : w.frozen? ⟨b, 3, none⟩ = false
theorem Free4.box (w : World) (vs : Array Value) (t : TypeId) : Free4 (w.alloc (.cells vs t)) w.heap.size :=
  ⟨World.frozen?_alloc_at _ _ _ _ rfl, World.frozen?_alloc_at _ _ _ _ rfl, World.frozen?_alloc_at _ _ _ _ rfl, World.frozen?_alloc_at _ _ _ _ rfl⟩
theorem Free4.below {w w' : World} {b : Nat} (h : Free4 w b) (hb : Below w.heap.size w w') (hlt : b < w.heap.size) : Free4 w' b :=
  ⟨kept_free hb ⟨hlt, h.f0⟩, kept_free hb ⟨hlt, h.f1⟩, kept_free hb ⟨hlt, h.f2⟩, kept_free hb ⟨hlt, h.f3⟩⟩
theorem last_results (tmps : Array Value) (b : Nat) (w : World) {y : Int} {m h : Bool} {x : Int} (h4 : tmps.getD 4 undef = .pointer (some ⟨b, 0, none⟩)) (k : Four w b y m h x) :
    (results Tryz.f82 tmps).run Tryz.prog w = .ok (.agg #[.int .i64 y, .bool m, .bool h, .int .i64 x]) w := by
  have h4' : tmps[4]?.getD undef = .pointer (some ⟨b, 0, none⟩) := by simpa using h4
  simp [results, Tryz.results82, go_sem, h4', k.c0, k.c1, k.c2, k.c3]
theorem before_results (tmps : Array Value) (b : Nat) (w : World) {y : Int} {m h : Bool} {x : Int} (h4 : tmps.getD 6 undef = .pointer (some ⟨b, 0, none⟩)) (k : Four w b y m h x) :
    (results Tryz.f76 tmps).run Tryz.prog w = .ok (.agg #[.int .i64 y, .bool m, .bool h, .int .i64 x]) w := by
  have h4' : tmps[6]?.getD undef = .pointer (some ⟨b, 0, none⟩) := by simpa using h4
  simp [results, Tryz.results76, go_sem, h4', k.c0, k.c1, k.c2, k.c3]

/-- How a version is told. -/
def VerTold (w w' : World) (v : Ver) (e : Ending) : Prop := ∃ (y : Int) (m h : Bool) (x : Int), v = (y, m, h, x) ∧ e = .returned (.agg #[.int .i64 y, .bool m, .bool h, .int .i64 x]) ∧ Below w.heap.size w w'

set_option maxHeartbeats 1000000 in
theorem lastBelow_calls (l : List Ver) (base : Option Addr) (n c : Nat) (by_ : Int) (w : World) (hn : n < 4611686018427387904) (hr : Rise l) (ha : Vers w base n c l) :
    Calls Tryz.prog 82 #[.slice base n c, .int .i64 by_] w fun e w' => VerTold w w' (befV by_ l ver0) e := by
  have HG := hid (grew w (.cells #[.int .i64 0, .bool false, .bool false, .int .i64 0] 69))
  have HBC := hid (below_calls l base n c by_ _ hn hr (ha.below (by decide) HG.out))
  have HE := hid (befV_bel (by_ := by_) ver0 hr)
  have hle := belV_le by_ l
  rw [← Vers.count ha] at hle
  have HV := hid (ha.below (by decide) HG.out)
  have HN := hid (Vers.count ha)
  clear ha hr
  generalize belV by_ l = m at *
  go_enter Tryz.func82, Tryz.ntmps82
  go_wp2_with fail
  refine HBC.out.mono ?_
  rintro e w1 ⟨rfl, hb⟩
  have hfo := (Four.box w 0 false false 0 69).below hb
  have hfr := (Free4.box w #[.int .i64 0, .bool false, .bool false, .int .i64 0] 69).below hb (by simp)
  have HFO := hid hfo
  obtain ⟨g0, g1, g2, g3⟩ := hfo
  obtain ⟨f0, f1, f2, f3⟩ := hfr
  have HV1 := hid (HV.out.below (by decide) hb)
  have HB := hid (below_deep HG.out hb)
  have hlt : w.heap.size < w1.heap.size := by simpa using World.block_lt_of_cell? _ _ g0
  clear hb HBC
  cases m with
  | zero =>
    have HE0 : Hid (befV by_ l ver0 = (-1, true, false, 0)) := by show _ = _; rw [HE.out]; rfl
    go_wp2
    (try simp only [Exit.inBlock, Exit.then])
    refine bodyPost_ret (last_results _ w.heap.size _ rfl (HFO.out.put _ _ _ _)) rfl ?_
    exact ⟨_, _, _, _, HE0.out, rfl, four_below HB.out (Nat.le_refl _)⟩
  | succ m =>
    rcases HV1.out.run with h | ⟨b, o, rfl, hrun⟩
    · omega
    obtain ⟨c0, c1, c2, c3⟩ := Vers.cells hrun (i := m) (by rw [← HN.out]; omega)
    have hbw : b < w1.heap.size := by simpa using World.block_lt_of_cell? _ _ c0
    have HE0 : Hid (befV by_ l ver0 = l.getD m default) := by show _ = _; rw [HE.out]; rfl
    clear hrun
    rcases hx : l.getD m default with ⟨y, mm, hh, x⟩
    rw [hx] at c0 c1 c2 c3 HE0
    simp only [Ver.by_, Ver.made, Ver.has_, Ver.n] at c0 c1 c2 c3
    clear hx
    have hwr : IntKind.i64.wrap (m : Int) = (m : Int) := by rw [IntKind.wrap_i64]; omega
    have hi : (m : Int) < (n : Int) := by omega
    go_wp2
    (try simp only [Exit.inBlock, Exit.then])
    refine bodyPost_ret (last_results _ w.heap.size _ rfl (HFO.out.put _ _ _ _)) rfl ?_
    exact ⟨_, _, _, _, HE0.out, rfl, four_below HB.out (Nat.le_refl _)⟩

set_option maxHeartbeats 1000000 in
theorem ownVers_calls (l : List Ver) (base : Option Addr) (n c : Nat) (w : World) (hn : n * 24 ≤ 140737488355328) (ha : Vers w base n c l) :
    Calls Tryz.prog 69 #[.slice base n c] w fun e w' => ∃ b' c', e = .returned (.slice b' n c') ∧ OwnsV w' w.heap.size (.slice b' n c') l ∧ Below w.heap.size w w' := by
  have HA := hid ha
  have HN : Hid ((0 + n) * 24 ≤ 140737488355328) := by show _ ≤ _; omega
  have HL := hid (Vers.count ha)
  clear ha hn
  go_enter Tryz.func69, Tryz.ntmps69
  go_wp2_with (at_builtin; refine wpList_onto _ rfl _ _ 107 69 4 24 _ Tryz.underlying107 verInfo rfl (by decide) (by decide) rfl w.heap.size _ 0 [] rfl (World.ownsRow_nil _ _ _ _) base n c (flat verC l) rfl HA.out (flatV_one l) HN.out (Nat.le_refl _) ?_)
  intro v' w' h1 h2
  have h3 : w'.ownsRow w.heap.size 69 4 v' n (flat verC l) := by simpa using h1
  obtain ⟨b', c', rfl, hl⟩ := Lies.owned h3
  have H3 : Hid (OwnsV w' w.heap.size (.slice b' n c') l) := by
    show World.ownsRow _ _ _ _ _ _ _
    rw [← HL.out]; exact h3
  have HB := hid ((Below.refl _ w).grown h2 (Nat.le_refl _) (fun k hk => by cases hk))
  clear h1 h2 h3 hl
  go_wp2
  go_ret
  exact ⟨_, _, rfl, H3.out, HB.out⟩

/-- Chains whose binary searches go right: keys and versions rise, and versions are not too many. -/
structure FitC (L : List Chn) : Prop where
  srt : SrtC L
  key : ∀ c ∈ L, keyB c.1 = true
  rise : ∀ c ∈ L, Rise c.2
  few : ∀ c ∈ L, c.2.length ≤ 1954687338214
theorem FitC.count {L : List Chn} (h : FitC L) : L.length ≤ 387420489 := chains_few h.srt h.key
theorem memC {L : List Chn} {i : Nat} (h : i < L.length) : L.getD i default ∈ L := by simp [List.getD, h]

set_option maxHeartbeats 1000000 in
theorem before_calls (L : List Chn) (base : Option Addr) (n c : Nat) (k : ByteArray) (by_ : Int) (w : World) (hf : FitC L) (ha : ChainsIn w base n c L) :
    Calls Tryz.prog 76 #[.slice base n c, .string k, .int .i64 by_] w fun e w' => VerTold w w' (before L k by_) e := by
  have hc := hf.count
  have HG := hid (grew w (.cells #[.int .i64 0, .bool false, .bool false, .int .i64 0] 69))
  have HFC := hid (findC_calls L base n c k _ (by have := ha.len; omega) hf.srt (ha.below HG.out))
  have HE : Hid (before L k by_ = befV by_ (if isAtC k L = true then (L.getD (posC k L) default).2 else []) ver0) := by
    show _ = _
    unfold before; rw [vsOf_at hf.srt]
  have HAT : Hid (isAtC k L = true → posC k L < L.length) := by
    intro h
    unfold isAtC at h
    simp only [Bool.and_eq_true, decide_eq_true_eq] at h
    exact h.1
  have HV := hid (ha.below HG.out)
  have HN := hid ha.len
  have HF := hid hf
  have hcn : n ≤ 387420489 := by rw [ha.len]; exact hc
  clear ha hf hc
  generalize posC k L = p at *
  cases hat : isAtC k L with
  | false =>
    rw [hat] at HE HFC
    clear hat HAT
    go_enter Tryz.func76, Tryz.ntmps76
    go_wp2_with fail
    refine HFC.out.mono ?_
    rintro e w1 ⟨rfl, hb⟩
    have HFO := hid ((Four.box w 0 false false 0 69).below hb)
    have HFR := hid ((Free4.box w #[.int .i64 0, .bool false, .bool false, .int .i64 0] 69).below hb (by simp))
    have HB := hid (below_deep HG.out hb)
    have HL := hid (lastBelow_calls [] none 0 0 by_ w1 (by omega) List.Pairwise.nil (Lies.none _ _))
    clear hb HFC
    go_wp2_with fail
    refine HL.out.mono ?_
    rintro e w2 ⟨y, mm, hh, x, hv, rfl, hb2⟩
    have hfo := HFO.out.below hb2
    have hfr := HFR.out.below hb2 HFO.out.lt
    have HFO2 := hid hfo
    obtain ⟨g0, g1, g2, g3⟩ := hfo
    obtain ⟨f0, f1, f2, f3⟩ := hfr
    have HB2 := hid (below_deep HB.out hb2)
    have HE2 : Hid (before L k by_ = (y, mm, hh, x)) := by show _ = _; rw [HE.out, ← hv]; rfl
    clear hb2 hv HL
    go_wp2
    (try simp only [Exit.inBlock, Exit.then])
    refine bodyPost_ret (before_results _ w.heap.size _ rfl (HFO2.out.put _ _ _ _)) rfl ?_
    exact ⟨_, _, _, _, HE2.out, rfl, four_below HB2.out (Nat.le_refl _)⟩
  | true =>
    have HPL := hid (HAT.out hat)
    rw [hat] at HE HFC
    clear hat HAT
    have hpl : p < n := by rw [HN.out]; exact HPL.out
    have hi : (p : Int) < (n : Int) := by omega
    go_enter Tryz.func76, Tryz.ntmps76
    go_wp2_with fail
    refine HFC.out.mono ?_
    rintro e w1 ⟨rfl, hb⟩
    have HFO := hid ((Four.box w 0 false false 0 69).below hb)
    have HFR := hid ((Free4.box w #[.int .i64 0, .bool false, .bool false, .int .i64 0] 69).below hb (by simp))
    have HB := hid (below_deep HG.out hb)
    rcases (HV.out.below hb).run with h | ⟨b, o, rfl, hrun⟩
    · omega
    obtain ⟨vb, vn, vc, c0, c1, hvv, _⟩ := hrun p hpl
    have hbw : b < w1.heap.size := by simpa using World.block_lt_of_cell? _ _ c0
    have hmem : L.getD p default ∈ L := memC HPL.out
    have HL := hid (lastBelow_calls _ vb vn vc by_ w1 (by have := HF.out.few _ hmem; have := Vers.count hvv; omega) (HF.out.rise _ hmem) hvv)
    clear hb HFC hrun hvv hmem
    go_wp2_with fail
    refine HL.out.mono ?_
    rintro e w2 ⟨y, mm, hh, x, hv, rfl, hb2⟩
    have hfo := HFO.out.below hb2
    have hfr := HFR.out.below hb2 HFO.out.lt
    have HFO2 := hid hfo
    obtain ⟨g0, g1, g2, g3⟩ := hfo
    obtain ⟨f0, f1, f2, f3⟩ := hfr
    have HB2 := hid (below_deep HB.out hb2)
    have HE2 : Hid (before L k by_ = (y, mm, hh, x)) := by show _ = _; rw [HE.out, ← hv]; rfl
    clear hb2 hv HL
    go_wp2
    (try simp only [Exit.inBlock, Exit.then])
    refine bodyPost_ret (before_results _ w.heap.size _ rfl (HFO2.out.put _ _ _ _)) rfl ?_
    exact ⟨_, _, _, _, HE2.out, rfl, four_below HB2.out (Nat.le_refl _)⟩
end Go.Proofs.YtagangiilcicpaeGreat
