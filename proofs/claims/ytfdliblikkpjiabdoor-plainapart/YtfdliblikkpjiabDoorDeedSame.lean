/-
  Whether two deeds are the same, by the program and by the document's answer; a copy of a deed.
  A copy of a deed.
  Whether two deeds are the same, by the program.
-/
import Derived.Test.YtfdliblikkpjiabDoorDeedTurn
import Derived.Deep.QuietTactic
import Derived.BigQuiet
import Derived.Deep.RegionHeld3
namespace Go.Proofs.YtfdliblikkpjiabDoor
open Go.RowKit

theorem take_both {α : Type} [Inhabited α] {l m : List α} {k : Nat} (h1 : k < l.length) (h2 : k < m.length) (h : l.take k = m.take k) (e : l.getD k default = m.getD k default) : l.take (k + 1) = m.take (k + 1) := by
  rw [take_snoc_getD h1, take_snoc_getD h2, h, e]
theorem first_diff {x0 x1 x2 x3 y0 y1 y2 y3 : Int} {x4 y4 : ByteArray} (h : ¬ (x0, x1, x2, x3, x4) = (y0, y1, y2, y3, y4)) : x0 ≠ y0 ∨ (x0 = y0 ∧ x1 ≠ y1) ∨ (x0 = y0 ∧ x1 = y1 ∧ x2 ≠ y2) ∨ (x0 = y0 ∧ x1 = y1 ∧ x2 = y2 ∧ x3 ≠ y3) ∨ (x0 = y0 ∧ x1 = y1 ∧ x2 = y2 ∧ x3 = y3 ∧ x4 ≠ y4) := by
  simp only [Prod.mk.injEq] at h
  by_cases e0 : x0 = y0 <;> by_cases e1 : x1 = y1 <;> by_cases e2 : x2 = y2 <;> by_cases e3 : x3 = y3 <;> simp_all
theorem ne_both {α : Type} [Inhabited α] {l m : List α} {k : Nat} (h : l.getD k default ≠ m.getD k default) : l ≠ m := fun e => h (by rw [e])

set_option maxHeartbeats 1000000 in
theorem sameTexts_calls (l m : List ByteArray) (ba : Option Addr) (na ca : Nat) (bb : Option Addr) (nb cb : Nat) (w : World) (ha : Texts w ba na ca l) (hb : Texts w bb nb cb m) :
    Calls Tryd.prog 27 #[.slice ba na ca, .slice bb nb cb] w fun e w' => e = .returned (.bool (decide (l = m))) ∧ ∃ q, w' = w.drewN q := by
  have HA := hid (Texts.count ha)
  have HB := hid (Texts.count hb)
  have hma := Nat.le_trans ha.hdr.le ha.hdr.max
  have hmb := Nat.le_trans hb.hdr.le hb.hdr.max
  unfold maxLen at hma hmb
  by_cases hne : na = nb
  · subst hne
    by_cases h0 : na = 0
    · subst h0
      have h1 : l = [] := List.eq_nil_of_length_eq_zero (by have := HA.out; omega)
      have h2 : m = [] := List.eq_nil_of_length_eq_zero (by have := HB.out; omega)
      subst h1
      subst h2
      clear ha hb
      go_enter Tryd.func27, Tryd.ntmps27
      go_wp2
      go_loop [13] (fun i => i = .int .i64 0) (fun _ => 0)
      case atStart => rfl
      case round =>
        obtain rfl := hrel
        go_wp2
        go_ret
        exact ⟨rfl, 0, rfl⟩
    rcases ha.run with h | ⟨b1, o1, rfl, h1⟩
    · exact absurd h h0
    rcases hb.run with h | ⟨b2, o2, rfl, h2⟩
    · exact absurd h h0
    have H1 := hid h1
    have H2 := hid h2
    clear h1 h2 ha hb h0
    go_enter Tryd.func27, Tryd.ntmps27
    go_wp2
    go_loopw [13] (fun i wr => ∃ k : Nat, k ≤ na ∧ i = .int .i64 k ∧ Hid (l.take k = m.take k) ∧ ∃ q, wr = w.drewN q) (fun i _ => na - (intOf i).toNat)
    case atStart => exact ⟨0, Nat.zero_le _, rfl, rfl, 0, rfl⟩
    case round =>
      obtain ⟨k, hk, rfl, HT, q, rfl⟩ := hrel
      by_cases hlt : k < na
      · have hk1 : k < l.length := by rw [← HA.out]; exact hlt
        have hk2 : k < m.length := by rw [← HB.out]; exact hlt
        have c1 := H1.out k _ (strs_at hk1)
        have c2 := H2.out k _ (strs_at hk2)
        have HS := hid (take_both hk1 hk2 HT.out)
        have HF := hid (ne_both (l := l) (m := m) (k := k))
        generalize l.getD k default = x at *
        generalize m.getD k default = y at *
        have hi : (k : Int) < (na : Int) := by omega
        by_cases he : x = y
        · subst he
          have t : (x.toList == x.toList) = true := by simp
          go_wp2
          go_quiet (fail)
          go_wp2
          go_roundw
          case rel => exact ⟨k + 1, by omega, by go_num, HS.out (by simp), _, rfl⟩
          case measure => simp [intOf]; omega
        · have t := streq_false he
          have HN := hid (HF.out he)
          clear he
          go_wp2
          go_quiet (fail)
          go_wp2
          go_ret
          exact ⟨ret_bool (by simp [HN.out]), _, World.drewN_drewN _ _ _⟩
      · obtain rfl : k = na := by omega
        have HE : Hid (l = m) := by
          show _ = _
          have := HT.out
          rwa [List.take_of_length_le (by rw [← HA.out]; exact Nat.le_refl _), List.take_of_length_le (by rw [← HB.out]; exact Nat.le_refl _)] at this
        go_wp2
        go_ret
        exact ⟨ret_bool (by simp [HE.out]), _, rfl⟩
  · have HN : Hid (l ≠ m) := fun e => hne (by rw [HA.out, HB.out, e])
    have t : ((na : Int) == (nb : Int)) = false := by simp; omega
    clear ha hb
    go_enter Tryd.func27, Tryd.ntmps27
    go_wp2
    go_ret
    exact ⟨ret_bool (by simp [HN.out]), 0, rfl⟩

end Go.Proofs.YtfdliblikkpjiabDoor

namespace Go.Proofs.YtfdliblikkpjiabDoor
open Go.RowKit

/-- An append onto nothing, at a step of a statement that draws its order: a copy, in new memory. -/
theorem step_copy (w : World) {ops : Array Oper} {o : Oper} {a : Act} {K : Act → World → Prop} {Q : Exit → Act → World → Prop} {E : Prop} (hgd : o.guard = none) (s x : Operand) (t e sz bytes : Nat) (z : Value)
    (hu : Tryd.prog.underlying t = some (.slice e)) (hinfo : (Tryd.prog.info? e).map (fun i => (i.zero, i.size, i.bytes)) = some (some z, sz, bytes)) (hzc : z.cells.size = sz) (hsz : 0 < sz) (hby : 0 < bytes)
    (ho : o.op = .call { callee := .builtin .append, args := #[s, x], argTypes := #[t, t] })
    (hs : a.eval s = .slice none 0 0) (base : Option Addr) (m c : Nat) (l2 : List Value) (hx : a.eval x = .slice base m c) (hh : Lies w sz base m c l2) (hone : ∀ u ∈ l2, u.oneCell' = true) (hbytes : m * bytes ≤ 140737488355328)
    (h : ∀ b' c' w', Lies w' sz b' m c' l2 → Below w.heap.size w w' → Fresh w.heap.size b' → K (a.put o.dst (.slice b' m c')) w') : if Region.wanted o (yielded ops a.tmps) = true then Oper.wp Tryd.prog o a w K Q else E := by
  have hw : Region.wanted o (yielded ops a.tmps) = true := by simp [Region.wanted, hgd]
  rw [if_pos hw]
  obtain ⟨i0, hi, hz0, hz1, hz2⟩ := info_parts hinfo
  have hlen := hh.len
  have hown := World.ownsRow_nil w w.heap.size e sz
  have h63 : 0 + m ≤ maxLen := by
    have := Nat.le_mul_of_pos_right m hby
    unfold maxLen; omega
  have hfin : ∀ v' w', w'.ownsRow w.heap.size e sz v' (0 + m) ([] ++ l2) → w.grownBy w' (Value.slice none 0 0).ownBlock → K (a.put o.dst v') w' := fun v' w' h1 h2 => by
    simp only [Nat.zero_add, List.nil_append] at h1
    obtain ⟨b', c', rfl, hl⟩ := Lies.owned h1
    exact h b' c' w' hl ((Below.refl _ _).grown h2 (Nat.le_refl _) (fun k hk => by cases hk)) (fun ad e => (h1.lt ad.block (by rw [e]; rfl)).1)
  have key : ∀ ad, base = some ad → (∀ j u, l2[j]? = some u → w.cell? (ad.add j) = some u) → Oper.wp Tryd.prog o a w K Q := fun ad had hnews =>
    wp_append_own w s x t ho w.heap.size e i0 _ sz bytes hu hi hz0 hz1 hz2 hzc hsz _ 0 [] hs hown ad m c l2 (by rw [hx, had]) hlen hnews hone h63 (by simpa using hbytes) (Nat.le_refl _)
      (fun v' w' h1 h2 _ => hfin v' w' h1 h2)
  cases base with
  | some ad =>
    rcases hh.run with he | ⟨b, o', he, hc⟩
    · subst he
      have : l2 = [] := List.eq_nil_of_length_eq_zero (by omega)
      exact key ad rfl (fun j u hu => by rw [this] at hu; simp at hu)
    · cases he
      exact key _ rfl (fun j u hu => by rw [Addr.add_lit]; exact hc j u hu)
  | none =>
    obtain rfl := hh.hdr.nil rfl
    obtain rfl : m = 0 := by have := hh.hdr.le; omega
    have hl2 : l2 = [] := List.eq_nil_of_length_eq_zero (by omega)
    have hrun := run_append_owned_none (P := Tryd.prog) w w.heap.size t o.type e i0 sz hu hi _ 0 [] hown
    unfold Oper.wp
    simp [execOp, ho, resolve, invoke, builtin, hs, hx, hrun, Result.andThen]
    exact h none 0 w (by rw [hl2]; exact Lies.none _ _) (Below.refl _ _) (fresh_none _)

theorem insInfo : (Tryd.prog.info? 53).map (fun i => (i.zero, i.size, i.bytes)) = some (some (.agg #[.int .i64 0, .int .i64 0, .int .i64 0, .int .i64 0, .string ByteArray.empty]), 5, 48) := by kernel_rfl

theorem box_free (w : World) (vs : Array Value) (t : TypeId) (j : Nat) : w.heap.size < (w.alloc (.cells vs t)).drew.heap.size ∧ (w.alloc (.cells vs t)).drew.frozen? ⟨w.heap.size, j, none⟩ = false := ⟨by show _ < (w.alloc (.cells vs t)).heap.size; rw [World.size_alloc]; omega, World.frozen?_alloc_at _ _ _ _ rfl⟩
theorem kept_free {w w' : World} {b x : Nat} (hb : Below w.heap.size w w') (h : b < w.heap.size ∧ w.frozen? ⟨b, x, none⟩ = false) : w'.frozen? ⟨b, x, none⟩ = false := by
  rw [hb.frozen (p := ⟨b, x, none⟩) h.1]; exact h.2
theorem three_lies {w : World} {sz : Nat} {base : Option Addr} {n c b B : Nat} {vs : List Value} {x y z : Value} (hf : Fresh B base) (hb : b < B) (h : Lies w sz base n c vs) : Lies (((w.setCell ⟨b, 0, none⟩ x).setCell ⟨b, 1, none⟩ y).setCell ⟨b, 2, none⟩ z) sz base n c vs :=
  ((h.set hf (p := ⟨b, 0, none⟩) hb _).set hf (p := ⟨b, 1, none⟩) hb _).set hf (p := ⟨b, 2, none⟩) hb _
theorem set_off {w : World} {b i j : Nat} {u : Value} (h : i ≠ j) : (w.setCell ⟨b, i, none⟩ u).cell? ⟨b, j, none⟩ = w.cell? ⟨b, j, none⟩ := World.cell?_setCell_other _ _ _ _ (fun e => h (by cases e; rfl))
structure Three (w : World) (b : Nat) (x y z : Value) : Prop where
  c0 : w.cell? ⟨b, 0, none⟩ = some x
  c1 : w.cell? ⟨b, 1, none⟩ = some y
  c2 : w.cell? ⟨b, 2, none⟩ = some z
theorem three_cells {w : World} {b : Nat} {x y z u0 u1 u2 : Value} (h0 : w.cell? ⟨b, 0, none⟩ = some u0) (h1 : w.cell? ⟨b, 1, none⟩ = some u1) (h2 : w.cell? ⟨b, 2, none⟩ = some u2) : Three (((w.setCell ⟨b, 0, none⟩ x).setCell ⟨b, 1, none⟩ y).setCell ⟨b, 2, none⟩ z) b x y z := by
  refine ⟨?_, ?_, ?_⟩
  · rw [set_off (by decide), set_off (by decide)]
    exact World.cell?_setCell_same _ _ _ h0
  · rw [set_off (by decide)]
    exact World.cell?_setCell_same _ _ _ (by rw [set_off (by decide)]; exact h1)
  · exact World.cell?_setCell_same _ _ _ (by rw [set_off (by decide), set_off (by decide)]; exact h2)
theorem held4 {a b c d : Prop} (h : a ∧ b ∧ c ∧ d) : d := h.2.2.2
theorem box_keep {A w1 w2 : World} {b : Nat} {x y z : Value} (h : w1.cell? ⟨b, 0, none⟩ = some x ∧ w1.cell? ⟨b, 1, none⟩ = some y ∧ w1.cell? ⟨b, 2, none⟩ = some z ∧ Below A.heap.size A w1) (hb : Below w1.heap.size w1 w2) :
    w2.cell? ⟨b, 0, none⟩ = some x ∧ w2.cell? ⟨b, 1, none⟩ = some y ∧ w2.cell? ⟨b, 2, none⟩ = some z ∧ Below A.heap.size A w2 :=
  ⟨kept_cell hb h.1, kept_cell hb h.2.1, kept_cell hb h.2.2.1, below_deep h.2.2.2 hb⟩

theorem three_keep {w0 w1 : World} {b n : Nat} {x y z u0 u1 u2 : Value} (h : w1.cell? ⟨b, 0, none⟩ = some x ∧ w1.cell? ⟨b, 1, none⟩ = some y ∧ w1.cell? ⟨b, 2, none⟩ = some z ∧ Below w0.heap.size w0 w1) (hn : n ≠ b) (hB : w0.heap.size ≤ n) :
    (((w1.setCell ⟨n, 0, none⟩ u0).setCell ⟨n, 1, none⟩ u1).setCell ⟨n, 2, none⟩ u2).cell? ⟨b, 0, none⟩ = some x ∧ (((w1.setCell ⟨n, 0, none⟩ u0).setCell ⟨n, 1, none⟩ u1).setCell ⟨n, 2, none⟩ u2).cell? ⟨b, 1, none⟩ = some y ∧
    (((w1.setCell ⟨n, 0, none⟩ u0).setCell ⟨n, 1, none⟩ u1).setCell ⟨n, 2, none⟩ u2).cell? ⟨b, 2, none⟩ = some z ∧ Below w0.heap.size w0 (((w1.setCell ⟨n, 0, none⟩ u0).setCell ⟨n, 1, none⟩ u1).setCell ⟨n, 2, none⟩ u2) := by
  refine ⟨?_, ?_, ?_, ((h.2.2.2.setCell (p := ⟨n, 0, none⟩) hB _).setCell (p := ⟨n, 1, none⟩) hB _).setCell (p := ⟨n, 2, none⟩) hB _⟩
  · rw [World.cell?_setCell_far _ _ _ _ hn, World.cell?_setCell_far _ _ _ _ hn, World.cell?_setCell_far _ _ _ _ hn]; exact h.1
  · rw [World.cell?_setCell_far _ _ _ _ hn, World.cell?_setCell_far _ _ _ _ hn, World.cell?_setCell_far _ _ _ _ hn]; exact h.2.1
  · rw [World.cell?_setCell_far _ _ _ _ hn, World.cell?_setCell_far _ _ _ _ hn, World.cell?_setCell_far _ _ _ _ hn]; exact h.2.2.1

end Go.Proofs.YtfdliblikkpjiabDoor

namespace Go.Proofs.YtfdliblikkpjiabDoor
open Go.RowKit

end Go.Proofs.YtfdliblikkpjiabDoor
