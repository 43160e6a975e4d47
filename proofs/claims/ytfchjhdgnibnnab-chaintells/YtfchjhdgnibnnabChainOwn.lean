/-
  Own of the program: a copy of chains, that shares no memory with them.
-/
import Derived.Test.YtfchjhdgnibnnabChainAt
import Derived.Deep.RegionHeld3
namespace Go.Proofs.Ytfchjhdgnibnnab
open Go.RowKit

/-- An append onto a row of the call's own, at a step of a statement that draws its order: what else there is stays. -/
theorem step_grow (w : World) {ops : Array Oper} {o : Oper} {a : Act} {K : Act → World → Prop} {Q : Exit → Act → World → Prop} {E : Prop} (hgd : o.guard = none) (s x : Operand) (t e sz bytes : Nat) (z : Value)
    (hu : Try.prog.underlying t = some (.slice e)) (hinfo : (Try.prog.info? e).map (fun i => (i.zero, i.size, i.bytes)) = some (some z, sz, bytes)) (hzc : z.cells.size = sz) (hsz : 0 < sz) (hby : 0 < bytes)
    (ho : o.op = .call { callee := .builtin .append, args := #[s, x], argTypes := #[t, t] })
    (B : Nat) (v : Value) (n : Nat) (l : List Value) (hs : a.eval s = v) (hown : w.ownsRow B e sz v n l) (base : Option Addr) (m c : Nat) (l2 : List Value) (hx : a.eval x = .slice base m c) (hh : Lies w sz base m c l2) (hone : ∀ u ∈ l2, u.oneCell' = true)
    (hbytes : (n + m) * bytes ≤ 140737488355328) (hB : B ≤ w.heap.size)
    (h : ∀ v' w', w'.ownsRow B e sz v' (n + m) (l ++ l2) → w.grownBy w' v.ownBlock → K (a.put o.dst v') w') : if Region.wanted o (yielded ops a.tmps) = true then Oper.wp Try.prog o a w K Q else E := by
  have hw : Region.wanted o (yielded ops a.tmps) = true := by simp [Region.wanted, hgd]
  rw [if_pos hw]
  obtain ⟨i0, hi, hz0, hz1, hz2⟩ := info_parts hinfo
  have hlen := hh.len
  have h63 : n + m ≤ maxLen := by
    have := Nat.le_mul_of_pos_right (n + m) hby
    unfold maxLen; omega
  have key : ∀ ad, base = some ad → (∀ j u, l2[j]? = some u → w.cell? (ad.add j) = some u) → Oper.wp Try.prog o a w K Q := fun ad had hnews =>
    wp_append_own w s x t ho B e i0 _ sz bytes hu hi hz0 hz1 hz2 hzc hsz v n l hs hown ad m c l2 (by rw [hx, had]) hlen hnews hone h63 hbytes hB
      (fun v' w' h1 h2 _ => h v' w' h1 h2)
  cases base with
  | some ad =>
    rcases hh.run with he | ⟨b, o', he, hc⟩
    · subst he
      have : l2 = [] := List.eq_nil_of_length_eq_zero (by omega)
      exact key ad rfl (fun j u hu => by rw [this] at hu; simp at hu)
    · cases he
      exact key _ rfl (fun j u hu => by rw [Addr.add_lit]; exact hc j u hu)
  | none =>
    obtain rfl := hh.hdr.nil rfl
    obtain rfl : m = 0 := by have := hh.hdr.le; omega
    have hl2 : l2 = [] := List.eq_nil_of_length_eq_zero (by omega)
    have hrun := run_append_owned_none (P := Try.prog) w B t o.type e i0 sz hu hi v n l hown
    unfold Oper.wp
    simp [execOp, ho, resolve, invoke, builtin, hs, hx, hrun, Result.andThen]
    exact h v w (by rw [hl2]; simpa using hown) (World.grownBy.refl _ _)

theorem cells2_keep {w1 w2 : World} {b0 o0 b1 o1 : Nat} {x0 x1 : Value} (h : w1.cell? ⟨b0, o0, none⟩ = some x0 ∧ w1.cell? ⟨b1, o1, none⟩ = some x1) (hb : Below w1.heap.size w1 w2) :
    w2.cell? ⟨b0, o0, none⟩ = some x0 ∧ w2.cell? ⟨b1, o1, none⟩ = some x1 := ⟨kept_cell hb h.1, kept_cell hb h.2⟩
theorem cells2_past {w1 : World} {b0 o0 b1 o1 : Nat} {x0 x1 : Value} (o : Obj) (h : w1.cell? ⟨b0, o0, none⟩ = some x0 ∧ w1.cell? ⟨b1, o1, none⟩ = some x1) :
    (w1.alloc o).cell? ⟨b0, o0, none⟩ = some x0 ∧ (w1.alloc o).cell? ⟨b1, o1, none⟩ = some x1 := ⟨box_past _ h.1, box_past _ h.2⟩
theorem cells2_grown {w1 w2 : World} {b o0 o1 : Nat} {x0 x1 : Value} {row : Option Nat} (hne : some b ≠ row) (hg : w1.grownBy w2 row) (h : w1.cell? ⟨b, o0, none⟩ = some x0 ∧ w1.cell? ⟨b, o1, none⟩ = some x1) :
    w2.cell? ⟨b, o0, none⟩ = some x0 ∧ w2.cell? ⟨b, o1, none⟩ = some x1 := ⟨hg.cell h.1 hne, hg.cell h.2 hne⟩
theorem own_old {w : World} {B e s n : Nat} {v : Value} {xs : List Value} (h : w.ownsRow B e s v n xs) : some w.heap.size ≠ v.ownBlock := fun e => by
  have := (h.lt _ e.symm).2; omega

/-- A chain more, its versions copied: what a call owns then. -/
theorem own_step {w wr A w1 w2 : World} {j : Nat} {u v2 : Value} {S : List Slot} {L : List Chn} {key : ByteArray} {vs : List Ver} {b1 : Option Addr} {vn c1 : Nat} {o : Obj}
    (HO : wr.ownsRow w.heap.size 61 2 u j (flat slotC S)) (HS : OwnSlots wr w.heap.size S L) (HB : Below w.heap.size w wr) (HG : Below wr.heap.size wr A) (hb1 : Below A.heap.size A w1)
    (ho1 : OwnsV w1 A.heap.size (.slice b1 vn c1) vs) (hz : key.size ≤ maxLen) (hown2 : w2.ownsRow w.heap.size 61 2 v2 (j + 1) (flat slotC S ++ [.string key, .slice b1 vn c1])) (hg2 : (w1.alloc o).grownBy w2 u.ownBlock) :
    w2.ownsRow w.heap.size 61 2 v2 (j + 1) (flat slotC (S ++ [(key, b1, vn, c1)])) ∧ OwnSlots w2 w.heap.size (S ++ [(key, b1, vn, c1)]) (L ++ [(key, vs)]) ∧ Below w.heap.size w w2 := by
  have hBA : w.heap.size ≤ A.heap.size := Nat.le_trans HB.size HG.size
  have hsl : OwnSlots w1 w.heap.size (S ++ [(key, b1, vn, c1)]) (L ++ [(key, vs)]) := by
    refine ((HS.below HG).below hb1).snoc rfl hz (owns_lower ho1 hBA) (fun i hi a ha e => ?_)
    have h1 := (HS.below HG).lt hi ha
    have h2 := (ho1.lt a e).1
    omega
  have hrow : (w1.alloc o).ownsRow w.heap.size 61 2 u j (flat slotC S) := (owns_keep (owns_keep HO HG) hb1).alloc o
  refine ⟨by rw [flat_snoc]; exact hown2, (hsl.below (grew w1 o)).grown hrow (by decide) hg2, ?_⟩
  refine ((below_deep (below_deep HB HG) hb1).alloc (Nat.le_trans hBA hb1.size) o).grown hg2 (le_box (Nat.le_trans hBA hb1.size)) (fun k hk => (HO.lt k hk).1)

set_option maxHeartbeats 2000000 in
theorem ownC_calls (L : List Chn) (base : Option Addr) (n c : Nat) (w : World) (hf : FitC L) (ha : ChainsIn w base n c L) :
    Calls Try.prog 17 #[.slice base n c] w fun e w' => ∃ v S, e = .returned v ∧ w'.ownsRow w.heap.size 61 2 v n (flat slotC S) ∧ OwnSlots w' w.heap.size S L ∧ Below w.heap.size w w' := by
  have hcn : n ≤ 387420489 := by rw [ha.len]; exact hf.count
  have HA := hid ha
  have HLN := hid ha.len
  have HF := hid hf
  clear ha hf
  go_enter Try.func17, Try.ntmps17
  go_wp2
  go_loopw [3, 8] (fun v i wr => ∃ (j : Nat) (S : List Slot), j ≤ n ∧ i = .int .i64 j ∧ Hid (wr.ownsRow w.heap.size 61 2 v j (flat slotC S)) ∧ Hid (OwnSlots wr w.heap.size S (L.take j)) ∧ Hid (Below w.heap.size w wr)) (fun _ i _ => n - (intOf i).toNat)
  case atStart => exact ⟨0, [], Nat.zero_le _, rfl, World.ownsRow_nil _ _ _ _, OwnSlots.nil _ _, Below.refl _ _⟩
  case round =>
    obtain ⟨j, S, hj, rfl, HO, HS, HBR⟩ := hrel
    by_cases hlt : j < n
    · have hjl : j < L.length := by rw [← HLN.out]; exact hlt
      have hi : (j : Int) < (n : Int) := by omega
      rcases (HA.out.below HBR.out).run with h | ⟨b, o, rfl, hrun⟩
      · omega
      obtain ⟨vb, vn, vc, c0, c1, hvv, hkz⟩ := hrun j hlt
      have hbw : b < wr.heap.size := by simpa using World.block_lt_of_cell? _ _ c0
      have hfew := HF.out.few _ (memC hjl)
      rw [← Vers.count hvv] at hfew
      have HTK := hid (take_snoc_getD hjl)
      rcases hx : L.getD j default with ⟨key, vs⟩
      rw [hx] at c0 hvv hkz HTK
      simp only at c0 hvv hkz
      clear hx hrun
      have HGW := hid (grew wr (.cells #[.string key, .slice vb vn vc] 61))
      have HS0 : Hid ((fun w' => w'.cell? ⟨wr.heap.size, 0, none⟩ = some (.string key) ∧ w'.cell? ⟨wr.heap.size, 1, none⟩ = some (.slice vb vn vc)) (wr.alloc (.cells #[.string key, .slice vb vn vc] 61)).drew) := ⟨box_cell wr #[.string key, .slice vb vn vc] _ 0 _ rfl, box_cell wr #[.string key, .slice vb vn vc] _ 1 _ rfl⟩
      have HOV := hid (ownVers_calls vs vb vn vc (wr.alloc (.cells #[.string key, .slice vb vn vc] 61)).drew (by omega) (hvv.below (by decide) HGW.out.drew))
      have HKZ := hid hkz
      have HNE := hid (own_old HO.out)
      clear hvv hkz
      go_wp2
      go_region_held3 (fun w' => w'.cell? ⟨wr.heap.size, 0, none⟩ = some (.string key) ∧ w'.cell? ⟨wr.heap.size, 1, none⟩ = some (.slice vb vn vc))
        (first
          | exact HS0.out
          | exact cells2_keep HS0.out (by assumption)
          | exact cells2_past _ (by assumption)
          | exact cells2_grown HNE.out (by assumption) (by assumption))
        (first
          | (go_at_call 40; refine HOV.out.mono ?_; rintro e w1 ⟨b1, c1', rfl, ho1, hb1⟩)
          | (refine step_grow _ rfl _ _ 43 61 2 40 _ Try.underlying43 chnInfo rfl (by decide) (by decide) rfl w.heap.size _ j (flat slotC S) rfl ?_ _ 1 _ [.string key, .slice b1 vn c1'] rfl ?_ ?_ ?_ ?_ ?_; (exact (owns_keep (owns_keep HO.out HGW.out.drew) hb1).alloc _); (exact lies_one w1 #[.string key, .slice b1 vn c1'] _ 2 rfl); (exact slotC_one (key, b1, vn, c1')); omega; (exact Nat.le_trans HBR.out.size (Nat.le_trans HGW.out.size (Nat.le_trans hb1.size (by simp)))); intro v2 w2 hown2 hg2))
      have HX := hid (own_step HO.out HS.out HBR.out HGW.out.drew hb1 ho1 HKZ.out hown2 hg2)
      clear hown2 hg2 ho1 hb1 HOV HS0
      go_wp2
      go_roundw
      case rel => exact ⟨j + 1, S ++ [(key, b1, vn, c1')], by omega, by go_num, HX.out.1, by rw [HTK.out]; exact HX.out.2.1, HX.out.2.2⟩
      case measure => simp [intOf]; omega
    · obtain rfl : j = n := by omega
      have HS3 : Hid (OwnSlots wr w.heap.size S L) := by
        have := HS.out
        rw [List.take_of_length_le (by rw [← HLN.out]; exact Nat.le_refl _)] at this
        exact this
      go_wp2
      go_ret
      exact ⟨_, S, rfl, HO.out, HS3.out, HBR.out⟩
end Go.Proofs.Ytfchjhdgnibnnab
