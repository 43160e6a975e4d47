/-
  The document's own Before and RowsAt, walked.
-/
import Derived.Test.YtdnafpenljdinadRefRight
namespace Go.Proofs.Ytdnafpenljdinad
open Go.RowKit

theorem befC_snoc (k : ByteArray) (by_ : Int) (c : Chn) : ∀ (L : List Chn) (o : Ver), befC k by_ (L ++ [c]) o = if c.1 = k then befV by_ c.2 (befC k by_ L o) else befC k by_ L o
  | [], o => rfl
  | x :: L, o => by rw [List.cons_append, befC, befC, befC_snoc k by_ c L]
theorem befV_snoc (by_ : Int) (v : Ver) (l : List Ver) (o : Ver) : befV by_ (l ++ [v]) o = if v.by_ < by_ then v else befV by_ l o := by rw [befV_append]; rfl

/-- How the document's Before stands: what it has found so far, and its answer's place. -/
structure BefIs (w wr : World) (y : Int) (m h : Bool) (x : Int) : Prop where
  out : Four wr (w.heap.size + 1) y m h x
  ofr : Free4 wr (w.heap.size + 1)
  res : Four wr w.heap.size 0 false false 0
  rfr : Free4 wr w.heap.size
  bel : Below w.heap.size w wr
theorem BefIs.deep {w wr w' : World} {y : Int} {m h : Bool} {x : Int} (k : BefIs w wr y m h x) (hb : Below wr.heap.size wr w') : BefIs w w' y m h x :=
  ⟨k.out.below hb, k.ofr.below hb k.out.lt, k.res.below hb, k.rfr.below hb k.res.lt, below_deep k.bel hb⟩
theorem Free4.set {w : World} {b : Nat} (h : Free4 w b) (p : Addr) (u : Value) : Free4 (w.setCell p u) b :=
  ⟨by rw [World.frozen?_setCell]; exact h.f0, by rw [World.frozen?_setCell]; exact h.f1, by rw [World.frozen?_setCell]; exact h.f2, by rw [World.frozen?_setCell]; exact h.f3⟩
theorem Four.far {w : World} {b : Nat} {y : Int} {m h : Bool} {x : Int} (k : Four w b y m h x) {p : Addr} (hp : p.block ≠ b) (u : Value) : Four (w.setCell p u) b y m h x := by
  have e : ∀ j, (w.setCell p u).cell? ⟨b, j, none⟩ = w.cell? ⟨b, j, none⟩ := fun j => World.cell?_setCell_other _ _ _ _ (fun e => hp (by rw [e]))
  exact ⟨by rw [e]; exact k.c0, by rw [e]; exact k.c1, by rw [e]; exact k.c2, by rw [e]; exact k.c3⟩
/-- Another one is found. -/
theorem BefIs.put {w wr : World} {y : Int} {m h : Bool} {x : Int} (k : BefIs w wr y m h x) (y' : Int) (m' h' : Bool) (x' : Int) :
    BefIs w ((((wr.setCell ⟨w.heap.size + 1, 0, none⟩ (.int .i64 y')).setCell ⟨w.heap.size + 1, 1, none⟩ (.bool m')).setCell ⟨w.heap.size + 1, 2, none⟩ (.bool h')).setCell ⟨w.heap.size + 1, 3, none⟩ (.int .i64 x')) y' m' h' x' := by
  refine ⟨k.out.put _ _ _ _, (((k.ofr.set _ _).set _ _).set _ _).set _ _, ?_, (((k.rfr.set _ _).set _ _).set _ _).set _ _, four_below k.bel (by omega)⟩
  exact (((k.res.far (p := ⟨w.heap.size + 1, 0, none⟩) (by simp) _).far (p := ⟨w.heap.size + 1, 1, none⟩) (by simp) _).far (p := ⟨w.heap.size + 1, 2, none⟩) (by simp) _).far (p := ⟨w.heap.size + 1, 3, none⟩) (by simp) _
theorem far4 {w : World} {b c j : Nat} {u0 u1 u2 u3 v : Value} (hne : b ≠ c) (h : w.cell? ⟨c, j, none⟩ = some v) : ((((w.setCell ⟨b, 0, none⟩ u0).setCell ⟨b, 1, none⟩ u1).setCell ⟨b, 2, none⟩ u2).setCell ⟨b, 3, none⟩ u3).cell? ⟨c, j, none⟩ = some v := by
  rw [World.cell?_setCell_far _ _ _ _ hne, World.cell?_setCell_far _ _ _ _ hne, World.cell?_setCell_far _ _ _ _ hne, World.cell?_setCell_far _ _ _ _ hne]; exact h
theorem refBefore_results (tmps : Array Value) (b : Nat) (w : World) {y : Int} {m h : Bool} {x : Int} (h4 : tmps.getD 6 undef = .pointer (some ⟨b, 0, none⟩)) (k : Four w b y m h x) :
    (results Try.f33 tmps).run Try.prog w = .ok (.agg #[.int .i64 y, .bool m, .bool h, .int .i64 x]) w := by
  have h4' : tmps[6]?.getD undef = .pointer (some ⟨b, 0, none⟩) := by simpa using h4
  simp [results, Try.results33, go_sem, h4', k.c0, k.c1, k.c2, k.c3]

set_option maxHeartbeats 4000000 in
set_option maxRecDepth 100000 in
theorem refBefore_calls (L : List Chn) (base : Option Addr) (n c : Nat) (k : ByteArray) (by_ : Int) (w : World) (hs : SrtC L) (ha : ChainsIn w base n c L) :
    Calls Try.prog 33 #[.slice base n c, .string k, .int .i64 by_] w fun e w' => VerTold w w' (before L k by_) e := by
  have hdm := Nat.le_trans ha.hdr.le ha.hdr.max
  unfold maxLen at hdm
  have HA := hid ha
  have HLN := hid ha.len
  have HE : Hid (befC k by_ L ver0 = before L k by_) := befC_is ver0 hs
  clear ha hs
  have HST : Hid (BefIs w ((w.alloc (.cells #[.int .i64 0, .bool false, .bool false, .int .i64 0] 60)).alloc (.cells #[.int .i64 (-1), .bool true, .bool false, .int .i64 0] 60)) (-1) true false 0) := by
    have h1 := Four.box w 0 false false 0 60
    have h2 := Four.box (w.alloc (.cells #[.int .i64 0, .bool false, .bool false, .int .i64 0] 60)) (-1) true false 0 60
    have h3 := Free4.box (w.alloc (.cells #[.int .i64 0, .bool false, .bool false, .int .i64 0] 60)) #[.int .i64 (-1), .bool true, .bool false, .int .i64 0] 60
    rw [World.size_alloc] at h2 h3
    exact ⟨h2, h3, h1.below (grew _ _), (Free4.box w _ _).below (grew _ _) h1.lt, below_deep (grew _ _) (grew _ _)⟩
  go_enter Try.func33, Try.ntmps33
  go_wp2
  go_loopw [15] (fun i wr => ∃ (j : Nat) (y : Int) (m h : Bool) (x : Int), j ≤ n ∧ i = .int .i64 j ∧ Hid (befC k by_ (L.take j) ver0 = (y, m, h, x)) ∧ Hid (BefIs w wr y m h x)) (fun i _ => n - (intOf i).toNat)
  case atStart => exact ⟨0, -1, true, false, 0, Nat.zero_le _, rfl, rfl, HST⟩
  case round =>
    obtain ⟨j, y, m, h, x, hj, rfl, HV, HBI⟩ := hrel
    by_cases hlt : j < n
    · have hjl : j < L.length := by rw [← HLN.out]; exact hlt
      have hi : (j : Int) < (n : Int) := by omega
      rcases HA.out.run with hh | ⟨b, o, rfl, hrun⟩
      · omega
      obtain ⟨vb, vn, vc, c0w, c1w, hvv, hkz⟩ := hrun j hlt
      have c0 := kept_cell HBI.out.bel c0w
      have c1 := kept_cell HBI.out.bel c1w
      have hbw : b < wr.heap.size := by simpa using World.block_lt_of_cell? _ _ c0
      have hvm := Nat.le_trans hvv.hdr.le hvv.hdr.max
      unfold maxLen at hvm
      have HVC := hid (Vers.count hvv)
      obtain ⟨key, vs, hx⟩ : ∃ key vs, L.getD j default = (key, vs) := ⟨_, _, rfl⟩
      have HSN := hid (befC_snoc k by_ (L.getD j default) (L.take j) ver0)
      rw [← take_snoc_getD hjl] at HSN
      rw [hx] at c0 hvv HVC HSN
      simp only at c0 hvv HVC HSN
      rw [HV.out] at HSN
      have HVW := hid hvv
      clear hx hrun hvv hkz c0w c1w
      generalize wr = wa at *
      have HB0 := hid (HBI.out.deep (grew wa (.cells #[.string key, .slice vb vn vc] 36)))
      have HK0 := hid (box_cell wa #[.string key, .slice vb vn vc] 36 0 _ rfl)
      have hwl : w.heap.size + 1 < wa.heap.size := HBI.out.out.lt
      go_wp2
      go_loopw [22] (fun i wr => ∃ (t : Nat) (y' : Int) (m' h' : Bool) (x' : Int), t ≤ vn ∧ i = .int .i64 t ∧ Hid ((if key = k then befV by_ (vs.take t) (y, m, h, x) else (y, m, h, x)) = (y', m', h', x')) ∧ Hid (BefIs w wr y' m' h' x') ∧ Hid (wr.cell? ⟨wa.heap.size, 0, none⟩ = some (.string key))) (fun i _ => vn - (intOf i).toNat)
      case atStart => exact ⟨0, y, m, h, x, Nat.zero_le _, rfl, (by show _ = _; simp [befV]), HB0, HK0⟩
      case round =>
        obtain ⟨t, y', m', h', x', ht, rfl, HV2, HB2, HK2⟩ := hrel
        by_cases htn : t < vn
        · have htl : t < vs.length := by rw [← HVC.out]; exact htn
          have hti : (t : Int) < (vn : Int) := by omega
          rcases (HVW.out.below (by decide) HB2.out.bel).run with hh | ⟨b2, o2, rfl, hvr⟩
          · omega
          obtain ⟨v0, v1, v2, v3⟩ := Vers.cells hvr htl
          have hbv : b2 < wr.heap.size := by simpa using World.block_lt_of_cell? _ _ v0
          have x0 := HK2.out
          have hxl : wa.heap.size < wr.heap.size := by simpa using World.block_lt_of_cell? _ _ x0
          have HTK := hid (take_snoc_getD htl)
          obtain ⟨y3, m3, h3, x3, hx⟩ : ∃ y3 m3 h3 x3, vs.getD t default = (y3, m3, h3, x3) := ⟨_, _, _, _, rfl⟩
          rw [hx] at v0 v1 v2 v3 HTK
          simp only [Ver.by_, Ver.made, Ver.has_, Ver.n] at v0 v1 v2 v3
          clear hx hvr
          have HB3 := hid (HB2.out.deep (grew wr (.cells #[.int .i64 y3, .bool m3, .bool h3, .int .i64 x3] 60)))
          have HK3 := hid (box_past (.cells #[.int .i64 y3, .bool m3, .bool h3, .int .i64 x3] 60) HK2.out)
          by_cases he : key = k
          · have t1 : (key.toList == k.toList) = true := by rw [he]; simp
            by_cases hlo : y3 < by_
            · have d1 : decide (y3 < by_) = true := by simpa using hlo
              have HV4 : Hid ((if key = k then befV by_ (vs.take (t + 1)) (y, m, h, x) else (y, m, h, x)) = (y3, m3, h3, x3)) := by
                show _ = _
                rw [if_pos he, HTK.out, befV_snoc]
                exact if_pos hlo
              obtain ⟨g0, g1, g2, g3⟩ := HB2.out.out
              obtain ⟨f0, f1, f2, f3⟩ := HB2.out.ofr
              have hol : w.heap.size + 1 < wr.heap.size := by omega
              have HBP := hid ((HB2.out.put y3 m3 h3 x3).deep (grew _ (.cells #[.int .i64 y3, .bool m3, .bool h3, .int .i64 x3] 60)))
              have HKP := hid (box_past (.cells #[.int .i64 y3, .bool m3, .bool h3, .int .i64 x3] 60) (far4 (u0 := .int .i64 y3) (u1 := .bool m3) (u2 := .bool h3) (u3 := .int .i64 x3) (show w.heap.size + 1 ≠ wa.heap.size by omega) HK2.out))
              clear he hlo
              go_wp2
              go_roundw
              case rel => exact ⟨t + 1, y3, m3, h3, x3, by omega, by go_num, HV4, HBP, HKP⟩
              case measure => simp [intOf]; omega
            · have d1 : decide (y3 < by_) = false := by simpa using hlo
              have HV4 : Hid ((if key = k then befV by_ (vs.take (t + 1)) (y, m, h, x) else (y, m, h, x)) = (y', m', h', x')) := by
                have := HV2.out
                show _ = _
                rw [if_pos he] at this ⊢
                rw [HTK.out, befV_snoc, ← this]
                exact if_neg hlo
              clear he hlo
              go_wp2
              go_roundw
              case rel => exact ⟨t + 1, y', m', h', x', by omega, by go_num, HV4, HB3, HK3⟩
              case measure => simp [intOf]; omega
          · have t1 : (key.toList == k.toList) = false := by simpa using fun e => he (toList_inj e)
            have HV4 : Hid ((if key = k then befV by_ (vs.take (t + 1)) (y, m, h, x) else (y, m, h, x)) = (y', m', h', x')) := by
              have := HV2.out
              show _ = _
              rw [if_neg he] at this ⊢
              exact this
            clear he
            go_wp2
            go_roundw
            case rel => exact ⟨t + 1, y', m', h', x', by omega, by go_num, HV4, HB3, HK3⟩
            case measure => simp [intOf]; omega
        · obtain rfl : t = vn := by omega
          have HV5 : Hid (befC k by_ (L.take (j + 1)) ver0 = (y', m', h', x')) := by
            have := HV2.out
            rw [List.take_of_length_le (by rw [← HVC.out]; exact Nat.le_refl _)] at this
            show _ = _
            rw [HSN.out]; exact this
          go_wp2
          go_roundw
          case rel => exact ⟨j + 1, y', m', h', x', by omega, by go_num, HV5, HB2⟩
          case measure => simp [intOf]; omega
    · obtain rfl : j = n := by omega
      have HV3 : Hid (before L k by_ = (y, m, h, x)) := by
        have := HV.out
        rw [List.take_of_length_le (by rw [← HLN.out]; exact Nat.le_refl _)] at this
        show _ = _
        rw [← HE.out]; exact this
      obtain ⟨g0, g1, g2, g3⟩ := HBI.out.out
      obtain ⟨r0, r1, r2, r3⟩ := HBI.out.res
      obtain ⟨f0, f1, f2, f3⟩ := HBI.out.rfr
      have hol : w.heap.size + 1 < wr.heap.size := HBI.out.out.lt
      have hol2 : w.heap.size < wr.heap.size := by omega
      go_wp2
      (try simp only [Exit.inBlock, Exit.then])
      refine bodyPost_ret (refBefore_results _ w.heap.size _ rfl (HBI.out.res.put _ _ _ _)) rfl ?_
      exact ⟨_, _, _, _, HV3.out, rfl, four_below HBI.out.bel (Nat.le_refl _)⟩

set_option maxHeartbeats 2000000 in
set_option maxRecDepth 100000 in
theorem refRowsAt_calls (L : List Chn) (base : Option Addr) (n c : Nat) (by_ : Int) (w : World) (hf : FitC L) (ha : ChainsIn w base n c L) :
    Calls Try.prog 21 #[.slice base n c, .int .i64 by_] w fun e w' => RowsTold w w' (rowsC L by_) e := by
  have hcn : n ≤ 387420489 := by rw [ha.len]; exact hf.count
  have HA := hid ha
  have HLN := hid ha.len
  have HF := hid hf
  clear ha hf
  go_enter Try.func21, Try.ntmps21
  go_wp2
  go_loopw [6, 12] (fun v i wr => ∃ (j r : Nat) (R : List Row), j ≤ n ∧ r ≤ j ∧ i = .int .i64 j ∧ Hid (wr.ownsRow w.heap.size 45 2 v r (rowCells R)) ∧ Hid (rowsGo L by_ (L.take j) = some R) ∧ Hid (Below w.heap.size w wr)) (fun _ i _ => n - (intOf i).toNat)
  case atStart => exact ⟨0, 0, [], Nat.zero_le _, Nat.le_refl _, rfl, World.ownsRow_nil _ _ _ _, rfl, Below.refl _ _⟩
  case round =>
    obtain ⟨j, r, R, hj, hrj, rfl, HO, HR, HBR⟩ := hrel
    by_cases hlt : j < n
    · have hjl : j < L.length := by rw [← HLN.out]; exact hlt
      have hi : (j : Int) < (n : Int) := by omega
      have HAR := hid (HA.out.below HBR.out)
      rcases HAR.out.run with h | ⟨b, o, hbase, hrun⟩
      · omega
      obtain ⟨vb, vn, vc, c0, c1, hvv, hkz⟩ := hrun j hlt
      have hbw : b < wr.heap.size := by simpa using World.block_lt_of_cell? _ _ c0
      have HSN := hid (rowsGo_snoc L by_ (L.getD j default) HR.out)
      rw [← take_snoc_getD hjl] at HSN
      have HST := hid (rowsGo_stop L by_ (memC hjl))
      have HGW := hid (grew wr (.cells #[.string (L.getD j default).1, .slice vb vn vc] 36))
      have HLB := hid (refBefore_calls L base n c (L.getD j default).1 by_ _ HF.out.srt (HAR.out.below HGW.out))
      subst hbase
      obtain ⟨key, hkey⟩ : ∃ key, (L.getD j default).1 = key := ⟨_, rfl⟩
      rw [hkey] at c0 HSN HST HGW HLB
      clear hkey hrun hvv hkz
      generalize before L key by_ = q at *
      go_wp2_with fail
      refine HLB.out.mono ?_
      rintro e w1 ⟨y, m, h, x, rfl, rfl, hb1⟩
      simp only [Ver.made, Ver.has_, Ver.n] at HSN HST
      have k0 := kept_cell hb1 (box_cell wr #[.string key, .slice vb vn vc] 36 0 _ rfl)
      have hwl : wr.heap.size < w1.heap.size := by simpa using World.block_lt_of_cell? _ _ k0
      have HB1 := hid (below_deep HGW.out hb1)
      have HB2 := hid (below_deep HB1.out (grew w1 (.cells #[.int .i64 y, .bool m, .bool h, .int .i64 x] 60)))
      clear hb1 HLB
      cases m with
      | false =>
        have HNO : Hid (rowsC L by_ = none) := HST.out (by simp)
        go_wp2
        go_ret2
        exact ⟨_, _, _, _, rfl, by rw [HNO.out]; rfl, by rw [HNO.out]; exact Holds.empty _ rfl rfl ⟨Nat.le_refl _, Nat.zero_le _, fun _ => rfl⟩, below_deep HBR.out HB2.out⟩
      | true =>
        cases h with
        | false =>
          have HNX : Hid (rowsGo L by_ (L.take (j + 1)) = some R) := by show _ = _; rw [HSN.out]; rfl
          go_wp2
          go_roundw
          case rel => exact ⟨j + 1, r, R, by omega, by omega, by go_num, owns_keep HO.out HB2.out, HNX, below_deep HBR.out HB2.out⟩
          case measure => simp [intOf]; omega
        | true =>
          have HNX : Hid (rowsGo L by_ (L.take (j + 1)) = some (R ++ [(key, x)])) := by show _ = _; rw [HSN.out]; rfl
          have HLO := hid (lies_one (w1.alloc (.cells #[.int .i64 y, .bool true, .bool true, .int .i64 x] 60)) #[.string key, .int .i64 x] 45 2 rfl)
          rw [World.size_alloc] at HLO
          have HOW := hid ((owns_keep HO.out HB2.out).alloc (.cells #[.string key, .int .i64 x] 45))
          have HSE := hid (rowCells_one [(key, x)])
          have HBY : Hid ((r + 1) * 24 ≤ 140737488355328) := by show _ ≤ _; omega
          have HSZ := hid (le_box (o := .cells #[.string key, .int .i64 x] 45) (Nat.le_trans HBR.out.size HB2.out.size))
          go_wp2_with (at_builtin; refine wpList_onto _ rfl _ _ 23 45 2 24 _ Try.underlying23 pairInfo rfl (by decide) (by decide) rfl w.heap.size _ r (rowCells R) rfl HOW.out _ 1 _ _ rfl HLO.out HSE.out HBY.out HSZ.out ?_)
          intro v3 w3 hown3 hg3
          have HO3 : Hid (w3.ownsRow w.heap.size 45 2 v3 (r + 1) (rowCells (R ++ [(key, x)]))) := by
            show World.ownsRow _ _ _ _ _ _ _
            rw [rowCells_snoc]; exact hown3
          have HB3 := hid (((below_deep HBR.out HB2.out).alloc (Nat.le_trans HBR.out.size HB2.out.size) (.cells #[.string key, .int .i64 x] 45)).grown hg3 HSZ.out (fun a ha => (HO.out.lt a ha).1))
          clear hown3 hg3
          go_wp2
          go_roundw
          case rel => exact ⟨j + 1, r + 1, _, by omega, by omega, by go_num, HO3, HNX, HB3⟩
          case measure => simp [intOf]; omega
    · obtain rfl : j = n := by omega
      have HR3 : Hid (rowsC L by_ = some R) := by
        have := HR.out
        rw [List.take_of_length_le (by rw [← HLN.out]; exact Nat.le_refl _)] at this
        exact this
      obtain ⟨b2, c2, rfl, hho⟩ := holds_of_owned HO.out
      have HH := hid hho
      clear hho
      go_wp2
      go_ret2
      exact ⟨_, _, _, _, rfl, by rw [HR3.out]; rfl, by rw [HR3.out]; exact HH.out, HBR.out⟩
end Go.Proofs.Ytdnafpenljdinad
