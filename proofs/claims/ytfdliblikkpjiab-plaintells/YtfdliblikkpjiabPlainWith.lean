/-
  own and with of the program: a copy of rows, and rows in which keys have what was made.
-/
import Derived.Test.YtfdliblikkpjiabDeedTurn
import Derived.Test.YtfdliblikkpjiabPut
import Derived.Test.YtfdliblikkpjiabDeedEq
import Derived.Test.YtfdliblikkpjiabDeedsIn
import Derived.Test.YtfdliblikkpjiabDeedAlive
namespace Go.Proofs.Ytfdliblikkpjiab
open Go.RowKit

set_option maxHeartbeats 1000000 in
theorem ownRows_calls (l : List Row) (base : Option Addr) (n c : Nat) (w : World) (hn : n * 24 ≤ 140737488355328) (ha : Holds w base n c l) :
    Calls Try.prog 22 #[.slice base n c] w fun e w' => ∃ b' c', e = .returned (.slice b' n c') ∧ Holds w' b' n c' l ∧ Below w.heap.size w w' := by
  have HA := hid ha
  have HN : Hid ((0 + n) * 24 ≤ 140737488355328) := by show _ ≤ _; omega
  clear ha hn
  go_enter Try.func22, Try.ntmps22
  go_wp2_with (at_builtin; refine wpList_app _ rfl _ _ rfl w.heap.size _ 0 [] rfl (World.ownsRow_nil _ _ _ _) base n c l rfl HA.out HN.out (Nat.le_refl _) ?_)
  intro v' w' h1 h2
  have h3 : w'.ownsRow w.heap.size 44 2 v' n (rowCells l) := by simpa using h1
  obtain ⟨b', c', rfl, hl⟩ := holds_of_owned h3
  have HB := hid ((Below.refl _ w).grown h2 (Nat.le_refl _) (fun k hk => by cases hk))
  clear h1 h2 h3
  go_wp2
  go_ret
  exact ⟨_, _, rfl, hl, HB.out⟩

theorem keysOf_at (V : List (ByteArray × Option Int)) (j : Nat) : (keysOf V).getD j default = (V.getD j default).1 := by
  unfold keysOf
  by_cases h : j < V.length
  · simp [List.getD, h]
  · simp [List.getD, h]; rfl
theorem srt_putOne {l : List Row} (h : Srt l) (x : ByteArray × Option Int) : Srt (putOne l x) := by
  unfold putOne; split
  · exact srt_ins h
  · exact srt_del h
theorem srt_puts : ∀ (V : List (ByteArray × Option Int)) {l : List Row}, Srt l → Srt (V.foldl putOne l)
  | [], _, h => h
  | x :: V, _, h => srt_puts V (srt_putOne h x)

theorem two_keep {A w1 w2 : World} {b0 o0 b1 o1 : Nat} {x0 x1 : Value} (h : w1.cell? ⟨b0, o0, none⟩ = some x0 ∧ w1.cell? ⟨b1, o1, none⟩ = some x1 ∧ Below A.heap.size A w1) (hb : Below w1.heap.size w1 w2) :
    w2.cell? ⟨b0, o0, none⟩ = some x0 ∧ w2.cell? ⟨b1, o1, none⟩ = some x1 ∧ Below A.heap.size A w2 :=
  ⟨kept_cell hb h.1, kept_cell hb h.2.1, below_deep h.2.2 hb⟩
theorem held3B {a b : Prop} {B : Nat} {A w' : World} (h : a ∧ b ∧ Below B A w') : Below B A w' := h.2.2
set_option maxHeartbeats 2000000 in
theorem with_calls (V : List (ByteArray × Option Int)) (l : List Row) (base : Option Addr) (n c : Nat) (vb : Option Addr) (vn vc : Nat) (kb : Option Addr) (kn kc : Nat) (w : World) (h5 : V.length ≤ 5) (hn : (n + 6) * 24 ≤ 140737488355328) (hs : Srt l)
    (ha : Holds w base n c l) (hv : Lies w 4 vb vn vc (verCells V)) (hk : Texts w kb kn kc (keysOf V)) :
    Calls Try.prog 17 #[.slice base n c, .slice vb vn vc, .slice kb kn kc] w fun e w' => ∃ b' n' c', e = .returned (.slice b' n' c') ∧ Holds w' b' n' c' (V.foldl putOne l) ∧ Below w.heap.size w w' := by
  have hvn : V.length = vn := by have := hv.len; rw [verCells_length] at this; omega
  have hkn : kn = vn := by have := Texts.count hk; rw [this, ← hvn]; simp [keysOf]
  subst hkn
  have HVL := hid hvn
  have hv5 : kn ≤ 5 := by omega
  have HS := hid hs
  have HV := hid hv
  have HK := hid hk
  have HO := hid (ownRows_calls l base n c w (by omega) ha)
  have HN := hid hn
  clear hs ha hv hk hn hvn h5
  go_enter Try.func17, Try.ntmps17
  go_wp2_with fail
  refine HO.out.mono ?_
  rintro e w1 ⟨b1, c1, rfl, h1, hb1⟩
  have HX1 := hid h1
  have HB1 := hid hb1
  clear h1 hb1
  go_wp2
  go_loopw [7, 14] (fun xv i wr => ∃ (j n2 c2 : Nat) (b2 : Option Addr), j ≤ kn ∧ xv = .slice b2 n2 c2 ∧ i = .int .i64 j ∧ n2 ≤ n + j ∧ Hid (Holds wr b2 n2 c2 ((V.take j).foldl putOne l)) ∧ Hid (Below w.heap.size w wr)) (fun _ i _ => kn - (intOf i).toNat)
  case atStart => exact ⟨0, n, c1, b1, Nat.zero_le _, rfl, rfl, Nat.le_refl _, HX1, HB1⟩
  case round =>
    obtain ⟨j, n2, c2, b2, hj, rfl, rfl, hn2, HX, HBR⟩ := hrel
    by_cases hlt : j < kn
    · have hjl : j < V.length := by rw [HVL.out]; exact hlt
      have hi : (j : Int) < (kn : Int) := by omega
      have HSRT := hid (srt_puts (V.take j) HS.out)
      have HBY : Hid ((n2 + 1) * 24 ≤ 140737488355328) := Nat.le_trans (Nat.mul_le_mul_right 24 (by omega)) HN.out
      rcases HV.out.run with h | ⟨vbb, vo, rfl, hq1⟩
      · omega
      rcases HK.out.run with h | ⟨kbb, ko, rfl, hq2⟩
      · omega
      have hat := verCells_at V j hjl
      have kc1 := kept_cell HBR.out (hq2 j _ (strs_at (by simpa [keysOf] using hjl)))
      rw [keysOf_at V j] at kc1
      have HFO : Hid ((V.take (j + 1)).foldl putOne l = putOne ((V.take j).foldl putOne l) (V.getD j default)) := by
        show _ = _
        rw [take_snoc_getD hjl, List.foldl_append]; rfl
      have v0 : ∀ i u, (verCell (V.getD j default).2)[i]? = some u → wr.cell? ⟨vbb, vo + j * 4 + i, none⟩ = some u := fun i u hu => by
        have := kept_cell HBR.out (hq1 _ _ (hat i u hu))
        rw [← Nat.add_assoc] at this; exact this
      have hvb : vbb < wr.heap.size := by
        have := hq1.lt (by rw [verCells_length]; omega)
        have := HBR.out.size
        omega
      have hkb : kbb < wr.heap.size := by simpa using World.block_lt_of_cell? _ _ kc1
      clear hq1 hq2 hat
      rcases hx : V.getD j default with ⟨key, o⟩
      rw [hx] at v0 kc1 HFO
      clear hx
      simp only at kc1
      cases o with
      | none =>
        have c0 := v0 0 _ rfl
        have c1 := v0 1 _ rfl
        have c2' := v0 2 _ rfl
        have c3 := v0 3 _ rfl
        rw [Nat.add_zero] at c0
        clear v0
        have HNX2 : Hid ((V.take (j + 1)).foldl putOne l = del key ((V.take j).foldl putOne l)) := by
          show _ = _
          rw [HFO.out]; rfl
        have HXY := hid (HX.out.below (grew wr (.cells #[.int .i64 0, .bool true, .bool false, .int .i64 0] 65)))
        have HDR := hid (drop_calls ((V.take j).foldl putOne l) b2 n2 c2 key _ (by have := HBY.out; omega) HSRT.out HXY.out)
        go_wp2_with fail
        refine HDR.out.mono ?_
        rintro e w3 ⟨b3, n3, c3', rfl, h3, hb3⟩
        have HX3 : Hid (Holds w3 b3 n3 c3' ((V.take (j + 1)).foldl putOne l)) := by show Holds _ _ _ _ _; rw [HNX2.out]; exact h3
        have hl3 : n3 ≤ n + (j + 1) := by
          have h4 : n3 = (del key ((V.take j).foldl putOne l)).length := h3.len
          have h5 := del_length key ((V.take j).foldl putOne l)
          have h6 := HX.out.len
          omega
        have HB3 := hid (below_deep HBR.out (below_deep (grew wr (.cells #[.int .i64 0, .bool true, .bool false, .int .i64 0] 65)) hb3))
        clear h3 hb3
        go_wp2
        go_roundw
        case rel => exact ⟨j + 1, n3, c3', b3, by omega, rfl, by go_num, hl3, HX3, HB3⟩
        case measure => simp [intOf]; omega
      | some m =>
        have c0 := v0 0 _ rfl
        have c1 := v0 1 _ rfl
        have c2' := v0 2 _ rfl
        have c3 := v0 3 _ rfl
        rw [Nat.add_zero] at c0
        clear v0
        have HNX2 : Hid ((V.take (j + 1)).foldl putOne l = ins key m ((V.take j).foldl putOne l)) := by
          show _ = _
          rw [HFO.out]; rfl
        have HS0 : Hid ((fun w' => w'.cell? ⟨kbb, ko + j, none⟩ = some (.string key) ∧ w'.cell? ⟨wr.heap.size, 3, none⟩ = some (.int .i64 m) ∧ Below (wr.alloc (.cells #[.int .i64 0, .bool true, .bool true, .int .i64 m] 65)).heap.size (wr.alloc (.cells #[.int .i64 0, .bool true, .bool true, .int .i64 m] 65)) w') (wr.alloc (.cells #[.int .i64 0, .bool true, .bool true, .int .i64 m] 65)).drew) := ⟨box_past _ kc1, box_cell wr #[.int .i64 0, .bool true, .bool true, .int .i64 m] _ 3 _ rfl, (Below.refl _ _).drew⟩
        have HXY := hid (HX.out.below (grew wr (.cells #[.int .i64 0, .bool true, .bool true, .int .i64 m] 65)))
        go_wp2
        go_region_held3 (fun w' => w'.cell? ⟨kbb, ko + j, none⟩ = some (.string key) ∧ w'.cell? ⟨wr.heap.size, 3, none⟩ = some (.int .i64 m) ∧ Below (wr.alloc (.cells #[.int .i64 0, .bool true, .bool true, .int .i64 m] 65)).heap.size (wr.alloc (.cells #[.int .i64 0, .bool true, .bool true, .int .i64 m] 65)) w')
          (first
            | exact HS0.out
            | exact two_keep (by assumption) (by assumption))
          (first
            | (go_at_call 30; refine (put_calls ((V.take j).foldl putOne l) b2 n2 c2 key m _ HBY.out HSRT.out ?_).mono ?_; exact HXY.out.below (held3B (by assumption)); rintro e w3 ⟨b3, n3, c3', rfl, h3, hb3⟩))
        have HX3 : Hid (Holds w3 b3 n3 c3' ((V.take (j + 1)).foldl putOne l)) := by show Holds _ _ _ _ _; rw [HNX2.out]; exact h3
        have hl3 : n3 ≤ n + (j + 1) := by
          have h4 : n3 = (ins key m ((V.take j).foldl putOne l)).length := h3.len
          have h5 := ins_length key m ((V.take j).foldl putOne l)
          have h6 := HX.out.len
          omega
        have HB3 := hid (below_deep HBR.out (below_deep (grew wr (.cells #[.int .i64 0, .bool true, .bool true, .int .i64 m] 65)) ((Below.refl _ _).drew.trans hb3)))
        clear h3 hb3
        go_wp2
        go_roundw
        case rel => exact ⟨j + 1, n3, c3', b3, by omega, rfl, by go_num, hl3, HX3, HB3⟩
        case measure => simp [intOf]; omega
    · obtain rfl : j = kn := by omega
      have HX3 : Hid (Holds wr b2 n2 c2 (V.foldl putOne l)) := by
        have := HX.out
        rw [List.take_of_length_le (by rw [HVL.out]; exact Nat.le_refl _)] at this
        exact this
      go_wp2
      go_ret
      exact ⟨_, _, _, rfl, HX3.out, HBR.out⟩
end Go.Proofs.Ytfdliblikkpjiab
