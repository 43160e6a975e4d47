/-
  A row that the call owns grows by one: in its place, or anew; what lies apart from it stays apart.
-/
import Derived.Test.YthmkgfdglkdjmadGreatDoorPlanOwn
import Derived.ArgAppend
namespace Go.Proofs.YthmkgfdglkdjmadGreatDoor
open Go.RowKit

/-- Where a row lies then: where it lay, or in a block that was not there. -/
def Moved (w : World) (v v' : Value) : Prop := v'.ownBlock = v.ownBlock ∨ ∃ g, v'.ownBlock = some g ∧ w.heap.size ≤ g
theorem owned_block {w : World} {B e sz n : Nat} {v : Value} {xs : List Value} (h : w.ownsRow B e sz v n xs) (hn : 0 < n) : ∃ g, v.ownBlock = some g ∧ B ≤ g := by
  rcases h.2 with ⟨_, h0⟩ | ⟨g, cap, cur, rfl, hbg, _⟩
  · omega
  · exact ⟨g, rfl, hbg⟩
theorem run_onto2 (w : World) (t ty e : TypeId) (sz bytes : Nat) (z : Value) (hu : Tryz.prog.underlying t = some (.slice e)) (hinfo : (Tryz.prog.info? e).map (fun i => (i.zero, i.size, i.bytes)) = some (some z, sz, bytes)) (hzc : z.cells.size = sz) (hsz : 0 < sz)
    (B : Nat) (v : Value) (n : Nat) (l : List Value) (hown : w.ownsRow B e sz v n l) (a : Addr) (m c : Nat) (l2 : List Value) (hl : l2.length = m * sz) (hnews : ∀ j u, l2[j]? = some u → w.cell? (a.add j) = some u) (hone : ∀ u ∈ l2, u.oneCell' = true)
    (hm : 0 < m) (h63 : n + m ≤ maxLen) (hbytes : (n + m) * bytes ≤ 140737488355328) (hB : B ≤ w.heap.size) :
    ∃ v' w', (Builtin.append_ #[t, t] ty #[v, .slice (some a) m c]).run Tryz.prog w = .ok v' w' ∧ w'.ownsRow B e sz v' (n + m) (l ++ l2) ∧ w.grownBy w' v.ownBlock ∧ Moved w v v' := by
  obtain ⟨i0, hi, hz0, hz1, hz2⟩ := info_parts hinfo
  obtain ⟨v', w', hr, h2, h3, _⟩ := run_append_own (P := Tryz.prog) w B t ty e i0 z sz bytes hu hi hz0 hz1 hz2 hzc hsz v n l hown a m c l2 hl hnews hone h63 hbytes hB
  refine ⟨v', w', hr, h2, h3, ?_⟩
  rcases hown.2 with ⟨rfl, rfl⟩ | ⟨g, cap, cur, rfl, hbg, hg, hnc, hcm, hcs, htake⟩
  · obtain ⟨v2, w2, hr2, h4, _, _⟩ := run_append_own (P := Tryz.prog) w w.heap.size t ty e i0 z sz bytes hu hi hz0 hz1 hz2 hzc hsz (.slice none 0 0) 0 [] (World.ownsRow_nil _ _ _ _) a m c l2 hl hnews hone h63 hbytes (Nat.le_refl _)
    rw [hr] at hr2
    injection hr2 with e1 e2
    subst e1
    exact .inr (owned_block h4 (by omega))
  · subst hz1
    by_cases hroom : n + m ≤ cap
    · have hr2 := run_append_room (P := Tryz.prog) w t ty e i0 hu hi g n cap cur hg a m c l2 hl hnews hone hroom (by rw [hl, hcs, ← Nat.add_mul]; exact Nat.mul_le_mul_right _ hroom)
      rw [hr] at hr2
      injection hr2 with e1 e2
      subst e1
      exact .inl rfl
    · obtain ⟨v2, w2, hr2, h4, _⟩ := run_append_arg_grows (P := Tryz.prog) w t ty e i0 z _ bytes hu hi hz0 rfl hz2 hzc hsz ⟨g, 0, none⟩ n cap l hown.1 (hown.cells (g := g) rfl) a m c l2 hl hnews (by omega) h63 hbytes
      rw [hr] at hr2
      injection hr2 with e1 e2
      subst e1
      exact .inr (owned_block h4 (by omega))
theorem wpList_onto2 (w : World) {ops : Array Oper} {rest : List Oper} {o : Oper} {a : Act} {Q : Exit → Act → World → Prop} (hgd : o.guard = Option.none) (s x : Operand) (t e sz bytes : Nat) (z : Value)
    (hu : Tryz.prog.underlying t = some (.slice e)) (hinfo : (Tryz.prog.info? e).map (fun i => (i.zero, i.size, i.bytes)) = some (some z, sz, bytes)) (hzc : z.cells.size = sz) (hsz : 0 < sz) (hby : 0 < bytes)
    (ho : o.op = .call { callee := .builtin .append, args := #[s, x], argTypes := #[t, t] })
    (B : Nat) (v : Value) (n : Nat) (l : List Value) (hs : a.eval s = v) (hown : w.ownsRow B e sz v n l) (b off m c : Nat) (l2 : List Value) (hx : a.eval x = .slice (some ⟨b, off, none⟩) m c) (hh : Lies w sz (some ⟨b, off, none⟩) m c l2) (hone : ∀ u ∈ l2, u.oneCell' = true)
    (hm : 0 < m) (hbytes : (n + m) * bytes ≤ 140737488355328) (hB : B ≤ w.heap.size)
    (h : ∀ v' w', w'.ownsRow B e sz v' (n + m) (l ++ l2) → w.grownBy w' v.ownBlock → Moved w v v' → wpList Tryz.prog ops Q rest (a.put o.dst v') w') : wpList Tryz.prog ops Q (o :: rest) a w := by
  have hnews : ∀ j u, l2[j]? = some u → w.cell? ((⟨b, off, none⟩ : Addr).add j) = some u := by
    rcases hh.run with h0 | ⟨b1, o1, e1, h1⟩
    · omega
    · cases e1
      exact fun j u hu => by rw [Addr.add_lit]; exact h1 j u hu
  have h63 : n + m ≤ maxLen := by
    have := Nat.le_mul_of_pos_right (n + m) hby
    unfold maxLen; omega
  obtain ⟨v', w', hr, h2, h3, h4⟩ := run_onto2 w t o.type e sz bytes z hu hinfo hzc hsz B v n l hown ⟨b, off, none⟩ m c l2 hh.len hnews hone hm h63 hbytes hB
  refine wpList_plain hgd fun K hK => ?_
  unfold Oper.wp execOp
  simp only [ho, resolve, invoke, builtin, Sem.run_bind, Sem.run_pure, Result.andThen_ok, List.map_toArray, List.map_cons, List.map_nil, hs, hx, hr]
  exact hK _ _ (h v' w' h2 h3 h4)

/-! ### Deeds that lie apart from a row -/
def Off1 (g : Option Nat) (s : Sl) : Prop := s.2.1 = 0 ∨ ∀ a, s.1 = some a → some a.block ≠ g
theorem lies_block {w : World} {sz n c : Nat} {base : Option Addr} {vs : List Value} (h : Lies w sz base n c vs) (hsz : 0 < sz) (hn : n ≠ 0) : ∃ b o, base = some ⟨b, o, none⟩ ∧ b < w.heap.size := by
  rcases h.run with h0 | ⟨b, o, rfl, hr⟩
  · exact absurd h0 hn
  · exact ⟨b, o, rfl, hr.lt (by rw [h.len]; exact Nat.mul_pos (by omega) hsz)⟩
theorem lies_moved {w w' : World} {sz : Nat} {s : Sl} {vs : List Value} {v v' : Value} (hsz : 0 < sz) (h : Lies w sz s.1 s.2.1 s.2.2 vs) (ho : Off1 v.ownBlock s) (hg : w.grownBy w' v.ownBlock) (hm : Moved w v v') : Lies w' sz s.1 s.2.1 s.2.2 vs ∧ Off1 v'.ownBlock s := by
  obtain ⟨base, n, c⟩ := s
  simp only at h ⊢
  by_cases h0 : n = 0
  · exact ⟨⟨h.len, h.hdr, .inl h0⟩, .inl h0⟩
  obtain ⟨b, o, rfl, hlt⟩ := lies_block h hsz h0
  have hne : some b ≠ v.ownBlock := by
    rcases ho with h1 | h1
    · exact absurd h1 h0
    · exact h1 _ rfl
  have hbl := hg.block b hlt hne
  refine ⟨⟨h.len, h.hdr, .inr ⟨b, o, rfl, fun j u hu => ?_⟩⟩, .inr (fun a ea => ?_)⟩
  · rcases h.run with h1 | ⟨b1, o1, e1, hr⟩
    · exact absurd h1 h0
    · cases e1
      rw [World.cell?_of_block (w := w) (a := ⟨b, o + j, Option.none⟩) hbl]
      exact hr j u hu
  · cases ea
    rcases hm with hm | ⟨g, hm, hge⟩
    · rw [hm]; exact hne
    · rw [hm]
      intro e
      have := Option.some.inj e
      simp only at this
      omega
/-- A deed in memory that lies from a block on, and apart from a row. -/
structure DSlotF (w : World) (B : Nat) (g : Option Nat) (s : DSlot) (d : Deed3) : Prop where
  is : DSlotIs w s d
  r : Fresh B s.1.1 ∧ Off1 g s.1
  w : Fresh B s.2.1.1 ∧ Off1 g s.2.1
  c : Fresh B s.2.2.1 ∧ Off1 g s.2.2
theorem DSlotF.moved {w w' : World} {B : Nat} {v v' : Value} {s : DSlot} {d : Deed3} (h : DSlotF w B v.ownBlock s d) (hg : w.grownBy w' v.ownBlock) (hm : Moved w v v') : DSlotF w' B v'.ownBlock s d := by
  obtain ⟨⟨hd, hs⟩, ⟨r1, r2⟩, ⟨w1, w2⟩, ⟨c1, c2⟩⟩ := h
  have a1 := lies_moved (s := s.1) (by decide) hd.tr r2 hg hm
  have a2 := lies_moved (s := s.2.1) (by decide) hd.tw w2 hg hm
  have a3 := lies_moved (s := s.2.2) (by decide) hd.cd c2 hg hm
  exact ⟨⟨⟨a1.1, a2.1, a3.1⟩, hs⟩, ⟨r1, a1.2⟩, ⟨w1, a2.2⟩, ⟨c1, a3.2⟩⟩
theorem DSlotF.below {w w' : World} {B : Nat} {g : Option Nat} {s : DSlot} {d : Deed3} (h : DSlotF w B g s d) (hb : Below w.heap.size w w') : DSlotF w' B g s d := ⟨h.is.below hb, h.r, h.w, h.c⟩
def DSlotsF (w : World) (B : Nat) (g : Option Nat) (T : List DSlot) (D : List Deed3) : Prop := T.length = D.length ∧ ∀ i, i < D.length → DSlotF w B g (T.getD i default) (D.getD i default)
theorem DSlotsF.nil (w : World) (B : Nat) (g : Option Nat) : DSlotsF w B g [] [] := ⟨rfl, fun _ h => absurd h (Nat.not_lt_zero _)⟩
theorem DSlotsF.below {w w' : World} {B : Nat} {g : Option Nat} {T : List DSlot} {D : List Deed3} (h : DSlotsF w B g T D) (hb : Below w.heap.size w w') : DSlotsF w' B g T D := ⟨h.1, fun i hi => (h.2 i hi).below hb⟩
theorem DSlotsF.moved {w w' : World} {B : Nat} {v v' : Value} {T : List DSlot} {D : List Deed3} (h : DSlotsF w B v.ownBlock T D) (hg : w.grownBy w' v.ownBlock) (hm : Moved w v v') : DSlotsF w' B v'.ownBlock T D := ⟨h.1, fun i hi => (h.2 i hi).moved hg hm⟩
theorem DSlotsF.are {w : World} {B : Nat} {g : Option Nat} {T : List DSlot} {D : List Deed3} (h : DSlotsF w B g T D) : DSlotsAre w T D := ⟨h.1, fun i hi => (h.2 i hi).is⟩
theorem DSlotsF.snoc {w : World} {B : Nat} {g : Option Nat} {T : List DSlot} {D : List Deed3} {s : DSlot} {d : Deed3} (h : DSlotsF w B g T D) (hs : DSlotF w B g s d) : DSlotsF w B g (T ++ [s]) (D ++ [d]) := by
  refine ⟨by simp [h.1], fun i hi => ?_⟩
  by_cases e : i < D.length
  · have e' : i < T.length := by rw [h.1]; exact e
    have := h.2 i e
    simpa [List.getD, List.getElem?_append_left e, List.getElem?_append_left e'] using this
  · have hi' : i = D.length := by simp at hi; omega
    subst hi'
    have e1 : (T ++ [s]).getD D.length default = s := by rw [← h.1]; simp [List.getD]
    have e2 : (D ++ [d]).getD D.length default = d := by simp [List.getD]
    rw [e1, e2]; exact hs
/-- Deeds that are read one by one, and the row that they are put into. -/
structure RowD (w : World) (B : Nat) (v : Value) (D : List Deed3) : Prop where
  ex : ∃ T, w.ownsRow B 75 3 v D.length (flat dslotC T) ∧ DSlotsF w B v.ownBlock T D
theorem RowD.nil (w : World) (B : Nat) : RowD w B (.slice none 0 0) [] := ⟨[], World.ownsRow_nil _ _ _ _, DSlotsF.nil _ _ _⟩
theorem RowD.below {w w' : World} {B : Nat} {v : Value} {D : List Deed3} (h : RowD w B v D) (hb : Below w.heap.size w w') : RowD w' B v D := by
  obtain ⟨T, h1, h2⟩ := h.ex
  exact ⟨T, owns_keep h1 hb, h2.below hb⟩
theorem RowD.deeds {w : World} {B : Nat} {v : Value} {D : List Deed3} (h : RowD w B v D) : ∃ b c, v = .slice b D.length c ∧ DeedsIn w b D.length c D := by
  obtain ⟨T, h1, h2⟩ := h.ex
  obtain ⟨b, c, rfl, hl⟩ := Lies.owned h1
  exact ⟨b, c, rfl, deeds_of_slots hl h2.are⟩
theorem RowD.set {w : World} {B : Nat} {v : Value} {D : List Deed3} (h : RowD w B v D) {b : Nat} (hp : b < B) (j : Nat) (u : Value) : RowD (w.setCell ⟨b, j, none⟩ u) B v D := by
  obtain ⟨T, h1, h2, h3⟩ := h.ex
  refine ⟨T, owns_off h1 (Off.set _ _ _ _) (fun e => by have := (h1.lt b e.symm).1; omega), h2, fun i hi => ?_⟩
  obtain ⟨⟨⟨a1, a2, a3⟩, hs⟩, ⟨r1, r2⟩, ⟨w1, w2⟩, ⟨c1, c2⟩⟩ := h3 i hi
  exact ⟨⟨⟨a1.set (p := ⟨b, j, none⟩) r1 hp u, a2.set (p := ⟨b, j, none⟩) w1 hp u, a3.set (p := ⟨b, j, none⟩) c1 hp u⟩, hs⟩, ⟨r1, r2⟩, ⟨w1, w2⟩, ⟨c1, c2⟩⟩
/-- Deeds that lie from a block on. -/
structure DeedsNew (w : World) (B : Nat) (db : Option Addr) (dn dc : Nat) (D : List Deed3) : Prop where
  ex : ∃ T, Lies w 3 db dn dc (flat dslotC T) ∧ Fresh B db ∧ T.length = D.length ∧ ∀ i, i < D.length → DSlotIs w (T.getD i default) (D.getD i default) ∧ Fresh B (T.getD i default).1.1 ∧ Fresh B (T.getD i default).2.1.1 ∧ Fresh B (T.getD i default).2.2.1
theorem DeedsNew.nil (w : World) (B : Nat) : DeedsNew w B none 0 0 [] := ⟨[], Lies.none _ _, fresh_none _, rfl, fun _ h => absurd h (Nat.not_lt_zero _)⟩
theorem DeedsNew.deeds {w : World} {B : Nat} {db : Option Addr} {dn dc : Nat} {D : List Deed3} (h : DeedsNew w B db dn dc D) : DeedsIn w db dn dc D := by
  obtain ⟨T, h1, _, h3, h4⟩ := h.ex
  exact deeds_of_slots h1 ⟨h3, fun i hi => (h4 i hi).1⟩
theorem DeedsNew.below {w w' : World} {B : Nat} {db : Option Addr} {dn dc : Nat} {D : List Deed3} (h : DeedsNew w B db dn dc D) (hb : Below w.heap.size w w') : DeedsNew w' B db dn dc D := by
  obtain ⟨T, h1, h2, h3, h4⟩ := h.ex
  exact ⟨T, h1.below (by decide) hb, h2, h3, fun i hi => ⟨(h4 i hi).1.below hb, (h4 i hi).2⟩⟩
theorem DeedsNew.set {w : World} {B : Nat} {db : Option Addr} {dn dc : Nat} {D : List Deed3} (h : DeedsNew w B db dn dc D) {p : Addr} (hp : p.block < B) (u : Value) : DeedsNew (w.setCell p u) B db dn dc D := by
  obtain ⟨T, h1, h2, h3, h4⟩ := h.ex
  refine ⟨T, h1.set h2 hp u, h2, h3, fun i hi => ?_⟩
  obtain ⟨⟨⟨a1, a2, a3⟩, hs⟩, f1, f2, f3⟩ := h4 i hi
  exact ⟨⟨⟨a1.set f1 hp u, a2.set f2 hp u, a3.set f3 hp u⟩, hs⟩, f1, f2, f3⟩
theorem RowD.new {w : World} {B : Nat} {v : Value} {D : List Deed3} (h : RowD w B v D) : ∃ b c, v = .slice b D.length c ∧ DeedsNew w B b D.length c D := by
  obtain ⟨T, h1, h2⟩ := h.ex
  obtain ⟨b, c, rfl, hl⟩ := Lies.owned h1
  exact ⟨b, c, rfl, T, hl, fun a ea => (h1.lt a.block (by rw [ea]; rfl)).1, h2.1, fun i hi => ⟨(h2.2 i hi).is, (h2.2 i hi).r.1, (h2.2 i hi).w.1, (h2.2 i hi).c.1⟩⟩
/-- One deed more: it was made behind the row. -/
theorem RowD.grown {wr w5 w6 : World} {B : Nat} {v v6 : Value} {D : List Deed3} {d : Deed3} {s : DSlot} {T : List DSlot} (o : Obj) (ho : wr.ownsRow B 75 3 v D.length (flat dslotC T)) (hT : DSlotsF wr B v.ownBlock T D) (hB : B ≤ wr.heap.size) (hb5 : Below wr.heap.size wr w5)
    (hs : DSlotIs w5 s d) (f1 : Fresh wr.heap.size s.1.1) (f2 : Fresh wr.heap.size s.2.1.1) (f3 : Fresh wr.heap.size s.2.2.1)
    (h6 : w6.ownsRow B 75 3 v6 (D.length + 1) (flat dslotC T ++ dslotC s)) (hg : (w5.alloc o).grownBy w6 v.ownBlock) (hm : Moved (w5.alloc o) v v6) : RowD w6 B v6 (D ++ [d]) := by
  have hoff : ∀ {q : Sl}, Fresh wr.heap.size q.1 → Fresh B q.1 ∧ Off1 v.ownBlock q := fun {q} h => ⟨fun a ea => Nat.le_trans hB (h a ea), .inr (fun a ea e => by
    have h1 := h a ea
    have h2 := (ho.lt a.block e.symm).2
    omega)⟩
  have hsF : DSlotF (w5.alloc o) B v.ownBlock s d := ⟨hs.below (grew w5 o), hoff f1, hoff f2, hoff f3⟩
  refine ⟨T ++ [s], ?_, ?_⟩
  · rw [flat_snoc, List.length_append]; exact h6
  · exact (((hT.below hb5).below (grew w5 o)).snoc hsF).moved hg hm
end Go.Proofs.YthmkgfdglkdjmadGreatDoor
