/-
  A copy of a deed.
  Whether two deeds are the same, by the program.
-/
import Derived.Test.YtfchjhdgnibnnabDeedEq
import Derived.Deep.RegionHeld3
namespace Go.Proofs.Ytfchjhdgnibnnab
open Go.RowKit

/-- An append onto nothing, at a step of a statement that draws its order: a copy, in new memory. -/
theorem step_copy (w : World) {ops : Array Oper} {o : Oper} {a : Act} {K : Act → World → Prop} {Q : Exit → Act → World → Prop} {E : Prop} (hgd : o.guard = none) (s x : Operand) (t e sz bytes : Nat) (z : Value)
    (hu : Try.prog.underlying t = some (.slice e)) (hinfo : (Try.prog.info? e).map (fun i => (i.zero, i.size, i.bytes)) = some (some z, sz, bytes)) (hzc : z.cells.size = sz) (hsz : 0 < sz) (hby : 0 < bytes)
    (ho : o.op = .call { callee := .builtin .append, args := #[s, x], argTypes := #[t, t] })
    (hs : a.eval s = .slice none 0 0) (base : Option Addr) (m c : Nat) (l2 : List Value) (hx : a.eval x = .slice base m c) (hh : Lies w sz base m c l2) (hone : ∀ u ∈ l2, u.oneCell' = true) (hbytes : m * bytes ≤ 140737488355328)
    (h : ∀ b' c' w', Lies w' sz b' m c' l2 → Below w.heap.size w w' → Fresh w.heap.size b' → K (a.put o.dst (.slice b' m c')) w') : if Region.wanted o (yielded ops a.tmps) = true then Oper.wp Try.prog o a w K Q else E := by
  have hw : Region.wanted o (yielded ops a.tmps) = true := by simp [Region.wanted, hgd]
  rw [if_pos hw]
  obtain ⟨i0, hi, hz0, hz1, hz2⟩ := info_parts hinfo
  have hlen := hh.len
  have hown := World.ownsRow_nil w w.heap.size e sz
  have h63 : 0 + m ≤ maxLen := by
    have := Nat.le_mul_of_pos_right m hby
    unfold maxLen; omega
  have hfin : ∀ v' w', w'.ownsRow w.heap.size e sz v' (0 + m) ([] ++ l2) → w.grownBy w' (Value.slice none 0 0).ownBlock → K (a.put o.dst v') w' := fun v' w' h1 h2 => by
    simp only [Nat.zero_add, List.nil_append] at h1
    obtain ⟨b', c', rfl, hl⟩ := Lies.owned h1
    exact h b' c' w' hl ((Below.refl _ _).grown h2 (Nat.le_refl _) (fun k hk => by cases hk)) (fun ad e => (h1.lt ad.block (by rw [e]; rfl)).1)
  have key : ∀ ad, base = some ad → (∀ j u, l2[j]? = some u → w.cell? (ad.add j) = some u) → Oper.wp Try.prog o a w K Q := fun ad had hnews =>
    wp_append_own w s x t ho w.heap.size e i0 _ sz bytes hu hi hz0 hz1 hz2 hzc hsz _ 0 [] hs hown ad m c l2 (by rw [hx, had]) hlen hnews hone h63 (by simpa using hbytes) (Nat.le_refl _)
      (fun v' w' h1 h2 _ => hfin v' w' h1 h2)
  cases base with
  | some ad =>
    rcases hh.run with he | ⟨b, o', he, hc⟩
    · subst he
      have : l2 = [] := List.eq_nil_of_length_eq_zero (by omega)
      exact key ad rfl (fun j u hu => by rw [this] at hu; simp at hu)
    · cases he
      exact key _ rfl (fun j u hu => by rw [Addr.add_lit]; exact hc j u hu)
  | none =>
    obtain rfl := hh.hdr.nil rfl
    obtain rfl : m = 0 := by have := hh.hdr.le; omega
    have hl2 : l2 = [] := List.eq_nil_of_length_eq_zero (by omega)
    have hrun := run_append_owned_none (P := Try.prog) w w.heap.size t o.type e i0 sz hu hi _ 0 [] hown
    unfold Oper.wp
    simp [execOp, ho, resolve, invoke, builtin, hs, hx, hrun, Result.andThen]
    exact h none 0 w (by rw [hl2]; exact Lies.none _ _) (Below.refl _ _) (fresh_none _)

theorem insInfo : (Try.prog.info? 73).map (fun i => (i.zero, i.size, i.bytes)) = some (some (.agg #[.int .i64 0, .int .i64 0, .int .i64 0, .int .i64 0, .string ByteArray.empty]), 5, 48) := by kernel_rfl

theorem box_free (w : World) (vs : Array Value) (t : TypeId) (j : Nat) : w.heap.size < (w.alloc (.cells vs t)).drew.heap.size ∧ (w.alloc (.cells vs t)).drew.frozen? ⟨w.heap.size, j, none⟩ = false := ⟨by show _ < (w.alloc (.cells vs t)).heap.size; rw [World.size_alloc]; omega, World.frozen?_alloc_at _ _ _ _ rfl⟩
theorem kept_free {w w' : World} {b x : Nat} (hb : Below w.heap.size w w') (h : b < w.heap.size ∧ w.frozen? ⟨b, x, none⟩ = false) : w'.frozen? ⟨b, x, none⟩ = false := by
  rw [hb.frozen (p := ⟨b, x, none⟩) h.1]; exact h.2
theorem three_lies {w : World} {sz : Nat} {base : Option Addr} {n c b B : Nat} {vs : List Value} {x y z : Value} (hf : Fresh B base) (hb : b < B) (h : Lies w sz base n c vs) : Lies (((w.setCell ⟨b, 0, none⟩ x).setCell ⟨b, 1, none⟩ y).setCell ⟨b, 2, none⟩ z) sz base n c vs :=
  ((h.set hf (p := ⟨b, 0, none⟩) hb _).set hf (p := ⟨b, 1, none⟩) hb _).set hf (p := ⟨b, 2, none⟩) hb _
theorem set_off {w : World} {b i j : Nat} {u : Value} (h : i ≠ j) : (w.setCell ⟨b, i, none⟩ u).cell? ⟨b, j, none⟩ = w.cell? ⟨b, j, none⟩ := World.cell?_setCell_other _ _ _ _ (fun e => h (by cases e; rfl))
structure Three (w : World) (b : Nat) (x y z : Value) : Prop where
  c0 : w.cell? ⟨b, 0, none⟩ = some x
  c1 : w.cell? ⟨b, 1, none⟩ = some y
  c2 : w.cell? ⟨b, 2, none⟩ = some z
theorem three_cells {w : World} {b : Nat} {x y z u0 u1 u2 : Value} (h0 : w.cell? ⟨b, 0, none⟩ = some u0) (h1 : w.cell? ⟨b, 1, none⟩ = some u1) (h2 : w.cell? ⟨b, 2, none⟩ = some u2) : Three (((w.setCell ⟨b, 0, none⟩ x).setCell ⟨b, 1, none⟩ y).setCell ⟨b, 2, none⟩ z) b x y z := by
  refine ⟨?_, ?_, ?_⟩
  · rw [set_off (by decide), set_off (by decide)]
    exact World.cell?_setCell_same _ _ _ h0
  · rw [set_off (by decide)]
    exact World.cell?_setCell_same _ _ _ (by rw [set_off (by decide)]; exact h1)
  · exact World.cell?_setCell_same _ _ _ (by rw [set_off (by decide), set_off (by decide)]; exact h2)
theorem held4 {a b c d : Prop} (h : a ∧ b ∧ c ∧ d) : d := h.2.2.2
theorem box_keep {A w1 w2 : World} {b : Nat} {x y z : Value} (h : w1.cell? ⟨b, 0, none⟩ = some x ∧ w1.cell? ⟨b, 1, none⟩ = some y ∧ w1.cell? ⟨b, 2, none⟩ = some z ∧ Below A.heap.size A w1) (hb : Below w1.heap.size w1 w2) :
    w2.cell? ⟨b, 0, none⟩ = some x ∧ w2.cell? ⟨b, 1, none⟩ = some y ∧ w2.cell? ⟨b, 2, none⟩ = some z ∧ Below A.heap.size A w2 :=
  ⟨kept_cell hb h.1, kept_cell hb h.2.1, kept_cell hb h.2.2.1, below_deep h.2.2.2 hb⟩

theorem three_keep {w0 w1 : World} {b n : Nat} {x y z u0 u1 u2 : Value} (h : w1.cell? ⟨b, 0, none⟩ = some x ∧ w1.cell? ⟨b, 1, none⟩ = some y ∧ w1.cell? ⟨b, 2, none⟩ = some z ∧ Below w0.heap.size w0 w1) (hn : n ≠ b) (hB : w0.heap.size ≤ n) :
    (((w1.setCell ⟨n, 0, none⟩ u0).setCell ⟨n, 1, none⟩ u1).setCell ⟨n, 2, none⟩ u2).cell? ⟨b, 0, none⟩ = some x ∧ (((w1.setCell ⟨n, 0, none⟩ u0).setCell ⟨n, 1, none⟩ u1).setCell ⟨n, 2, none⟩ u2).cell? ⟨b, 1, none⟩ = some y ∧
    (((w1.setCell ⟨n, 0, none⟩ u0).setCell ⟨n, 1, none⟩ u1).setCell ⟨n, 2, none⟩ u2).cell? ⟨b, 2, none⟩ = some z ∧ Below w0.heap.size w0 (((w1.setCell ⟨n, 0, none⟩ u0).setCell ⟨n, 1, none⟩ u1).setCell ⟨n, 2, none⟩ u2) := by
  refine ⟨?_, ?_, ?_, ((h.2.2.2.setCell (p := ⟨n, 0, none⟩) hB _).setCell (p := ⟨n, 1, none⟩) hB _).setCell (p := ⟨n, 2, none⟩) hB _⟩
  · rw [World.cell?_setCell_far _ _ _ _ hn, World.cell?_setCell_far _ _ _ _ hn, World.cell?_setCell_far _ _ _ _ hn]; exact h.1
  · rw [World.cell?_setCell_far _ _ _ _ hn, World.cell?_setCell_far _ _ _ _ hn, World.cell?_setCell_far _ _ _ _ hn]; exact h.2.1
  · rw [World.cell?_setCell_far _ _ _ _ hn, World.cell?_setCell_far _ _ _ _ hn, World.cell?_setCell_far _ _ _ _ hn]; exact h.2.2.1

end Go.Proofs.Ytfchjhdgnibnnab

namespace Go.Proofs.Ytfchjhdgnibnnab
open Go.RowKit

end Go.Proofs.Ytfchjhdgnibnnab
