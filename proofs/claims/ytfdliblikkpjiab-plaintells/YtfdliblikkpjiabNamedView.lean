/-
  The two views that the statement DeedNamed hands to a deed.
-/
import Derived.Test.YtfdliblikkpjiabDeedAlive
import Derived.Test.YtfdliblikkpjiabRef
namespace Go.Proofs.Ytfdliblikkpjiab
open Go.RowKit

theorem set_same_below {w : World} {a : Addr} {u : Value} (h : w.cell? a = some u) : Below w.heap.size w (w.setCell a u) := by
  refine ⟨rfl, rfl, rfl, by simp [World.setCell], fun k _ => ?_⟩
  by_cases e : k = a.block
  · subst e
    simp only [World.setCell, Array.getElem?_modify, if_true]
    unfold World.cell? at h
    split at h
    · rename_i c t z hc
      rw [hc]
      split at h
      · cases h
      · rename_i hs
        simp only [Option.map_some, Option.some.injEq, Obj.cells.injEq, and_true]
        rw [if_neg hs]
        apply Array.ext_getElem?
        intro i
        rw [Array.getElem?_setIfInBounds]
        split
        · rename_i e
          subst e
          split
          · exact h.symm
          · rename_i hlt
            rw [Array.getElem?_eq_none (by omega)]
        · rfl
    · cases h
  · exact Below.heap_setCell _ _ _ _ e

theorem boolZero (w : World) : (zeroValue 4).run Try.prog w = .ok (.bool false) w := by kernel_rfl

/-- A key that is not there has 0. -/
theorem seen_num (k : ByteArray) (l : List Row) : (if isAt k l = true then num k l else 0) = num k l := by
  cases h : isAt k l with
  | true => rfl
  | false => rw [num_not k l h]; rfl

/-- An append onto a row of the call's own, at a step of a statement that draws its order. -/
theorem step_onto (w : World) {ops : Array Oper} {o : Oper} {a : Act} {K : Act → World → Prop} {Q : Exit → Act → World → Prop} {E : Prop} (hgd : o.guard = none) (s x : Operand) (t e sz bytes : Nat) (z : Value)
    (hu : Try.prog.underlying t = some (.slice e)) (hinfo : (Try.prog.info? e).map (fun i => (i.zero, i.size, i.bytes)) = some (some z, sz, bytes)) (hzc : z.cells.size = sz) (hsz : 0 < sz) (hby : 0 < bytes)
    (ho : o.op = .call { callee := .builtin .append, args := #[s, x], argTypes := #[t, t] })
    (B : Nat) (v : Value) (n : Nat) (l : List Value) (hs : a.eval s = v) (hown : w.ownsRow B e sz v n l) (base : Option Addr) (m c : Nat) (l2 : List Value) (hx : a.eval x = .slice base m c) (hh : Lies w sz base m c l2) (hone : ∀ u ∈ l2, u.oneCell' = true)
    (hbytes : (n + m) * bytes ≤ 140737488355328) (hB : B ≤ w.heap.size)
    (h : ∀ b' c' w', Lies w' sz b' (n + m) c' (l ++ l2) → Fresh B b' → w'.ownsRow B e sz (.slice b' (n + m) c') (n + m) (l ++ l2) → Below B w w' → K (a.put o.dst (.slice b' (n + m) c')) w') : if Region.wanted o (yielded ops a.tmps) = true then Oper.wp Try.prog o a w K Q else E := by
  have hw : Region.wanted o (yielded ops a.tmps) = true := by simp [Region.wanted, hgd]
  rw [if_pos hw]
  obtain ⟨i0, hi, hz0, hz1, hz2⟩ := info_parts hinfo
  have hlen := hh.len
  have h63 : n + m ≤ maxLen := by
    have := Nat.le_mul_of_pos_right (n + m) hby
    unfold maxLen; omega
  have hfin : ∀ v' w', w'.ownsRow B e sz v' (n + m) (l ++ l2) → w.grownBy w' v.ownBlock → K (a.put o.dst v') w' := fun v' w' h1 h2 => by
    obtain ⟨b', c', rfl, hl⟩ := Lies.owned h1
    exact h b' c' w' hl (fun ad e => (h1.lt ad.block (by rw [e]; rfl)).1) h1 ((Below.refl _ _).grown h2 hB (fun k hk => (hown.lt k hk).1))
  have key : ∀ ad, base = some ad → (∀ j u, l2[j]? = some u → w.cell? (ad.add j) = some u) → Oper.wp Try.prog o a w K Q := fun ad had hnews =>
    wp_append_own w s x t ho B e i0 _ sz bytes hu hi hz0 hz1 hz2 hzc hsz v n l hs hown ad m c l2 (by rw [hx, had]) hlen hnews hone h63 hbytes hB
      (fun v' w' h1 h2 _ => hfin v' w' h1 h2)
  cases base with
  | some ad =>
    rcases hh.run with he | ⟨b, o', he, hc⟩
    · subst he
      have : l2 = [] := List.eq_nil_of_length_eq_zero (by omega)
      exact key ad rfl (fun j u hu => by rw [this] at hu; simp at hu)
    · cases he
      exact key _ rfl (fun j u hu => by rw [Addr.add_lit]; exact hc j u hu)
  | none =>
    obtain rfl := hh.hdr.nil rfl
    obtain rfl : m = 0 := by have := hh.hdr.le; omega
    have hl2 : l2 = [] := List.eq_nil_of_length_eq_zero (by omega)
    have hrun := run_append_owned_none (P := Try.prog) w B t o.type e i0 sz hu hi v n l hown
    unfold Oper.wp
    simp [execOp, ho, resolve, invoke, builtin, hs, hx, hrun, Result.andThen]
    obtain ⟨b', c', rfl, hl⟩ := Lies.owned hown
    have hl' := h b' c' w (by rw [hl2]; simpa using hl) (fun ad e => (hown.lt ad.block (by rw [e]; rfl)).1) (by rw [hl2]; simpa using hown) (Below.refl _ _)
    exact hl'
end Go.Proofs.Ytfdliblikkpjiab
