/-
  slices.Delete of one entry, in a row that the call owns: what is behind it moves up, in the row's own block.
  Come of replicas, the document's own, walked.
  What the statements of chapter 10 build: a replica that entries came to.
  Cells and blocks in worlds that have been written on.
-/
import Derived.Test.YtagangiilcicpaeGreatDoorRepFinds
import Derived.Test.YtagangiilcicpaeGreatDoorInsert
import Derived.Test.YtagangiilcicpaeGreatDoorRepOwn
import Derived.Test.YtagangiilcicpaeGreatDoorChainOld
import Derived.Deep.RegionLaw
import Derived.Deep.DeepCutAuto
import Derived.Test.YtagangiilcicpaeGreatDoorOpenBatches
import Derived.Test.YtagangiilcicpaeGreatDoorRefNew
import Derived.Test.YtagangiilcicpaeGreatDoorPlanLib
import Derived.Deep.RegionWith
namespace Go.Proofs.YtagangiilcicpaeGreatDoor
open Go.RowKit

theorem run_appendIn (w : World) (t ty e sz : Nat) (g n c : Nat) (cur : Array Value) (et : TypeId) (a : Addr) (m mc : Nat) (news : List Value)
    (hu : Tryz.prog.underlying t = some (.slice e)) (hs : (Tryz.prog.info? e).map (·.size) = some sz) (hg : w.heap[g]? = some (.cells cur et (0, 0)))
    (hl : news.length = m * sz) (hsrc : ∀ j v, news[j]? = some v → w.cell? (a.add j) = some v) (h1 : ∀ v ∈ news, v.oneCell' = true) (hroom : n + m ≤ c) (hfit : n * sz + news.length ≤ cur.size) :
    (Builtin.append_ #[t, t] ty #[.slice (some ⟨g, 0, none⟩) n c, .slice (some a) m mc]).run Tryz.prog w = .ok (.slice (some ⟨g, 0, none⟩) (n + m) c) (w.setRow g (cur.toList.take (n * sz) ++ news ++ cur.toList.drop (n * sz + news.length)).toArray) := by
  cases hq : Tryz.prog.info? e with
  | none => simp [hq] at hs
  | some i =>
    have hi : i.size = sz := by simpa [hq] using hs
    subst hi
    have hfc := run_firstCells_some (P := Tryz.prog) w i.size m a m mc news hl hsrc
    have hst := run_storeCells_at Tryz.prog g (n * i.size) et news 0 cur w hg (by simpa using hfit) h1
    simp only [Nat.add_zero] at hst
    simp [Builtin.append_, run_underlying hu, sizeOf, typeInfo, hq, Builtin.lenOf, hroom, hfc, Addr.add_lit, hst]
theorem step_appendIn (w : World) {ops : Array Oper} {o : Oper} {a : Act} {K : Act → World → Prop} {Q : Exit → Act → World → Prop} {E : Prop} (hgd : o.guard = none) (s x : Operand) (t e sz : Nat)
    (ho : o.op = .call { callee := .builtin .append, args := #[s, x], argTypes := #[t, t] }) (hu : Tryz.prog.underlying t = some (.slice e)) (hs : (Tryz.prog.info? e).map (·.size) = some sz)
    (g n c : Nat) (cur : Array Value) (et : TypeId) (ad : Addr) (m mc : Nat) (news : List Value) (hd : a.eval s = .slice (some ⟨g, 0, none⟩) n c) (hx : a.eval x = .slice (some ad) m mc)
    (hg : w.heap[g]? = some (.cells cur et (0, 0))) (hl : news.length = m * sz) (hsrc : ∀ j v, news[j]? = some v → w.cell? (ad.add j) = some v) (h1 : ∀ v ∈ news, v.oneCell' = true) (hroom : n + m ≤ c) (hfit : n * sz + news.length ≤ cur.size)
    (h : ∀ w', w'.heap[g]? = some (.cells (cur.toList.take (n * sz) ++ news ++ cur.toList.drop (n * sz + news.length)).toArray et (0, 0)) → w.grownBy w' (some g) → K (a.put o.dst (.slice (some ⟨g, 0, none⟩) (n + m) c)) w') :
    if Region.wanted o (yielded ops a.tmps) = true then Oper.wp Tryz.prog o a w K Q else E := by
  have hw : Region.wanted o (yielded ops a.tmps) = true := by simp [Region.wanted, hgd]
  rw [if_pos hw]
  have hrun := fun ty => run_appendIn w t ty e sz g n c cur et ad m mc news hu hs hg hl hsrc h1 hroom hfit
  unfold Oper.wp execOp
  simp only [ho, resolve, invoke, builtin, Sem.run_bind, Sem.run_pure, Result.andThen_ok, List.map_toArray, List.map_cons, List.map_nil, hd, hx, hrun]
  exact h _ (setRow_heap w g cur _ et _ hg) (grown_setRow _ _ _)
theorem run_clearIn (w : World) (t ty e : Nat) (z : Value) (Z : List Value) (g o c : Nat) (cur : Array Value) (et : TypeId)
    (hu : Tryz.prog.underlying t = some (.slice e)) (hz : ∀ w, (zeroValue e).run Tryz.prog w = .ok z w) (hZ : (Builtin.zeroCells z.cells 1).toList = Z) (hg : w.heap[g]? = some (.cells cur et (0, 0))) (h1 : ∀ v ∈ Z, v.oneCell' = true) (hfit : o + Z.length ≤ cur.size) :
    (Builtin.clear_ #[t] ty #[.slice (some ⟨g, o, none⟩) 1 c]).run Tryz.prog w = .ok (.tuple #[]) (w.setRow g (cur.toList.take o ++ Z ++ cur.toList.drop (o + Z.length)).toArray) := by
  have hst := run_storeCells_at Tryz.prog g o et Z 0 cur w hg (by simpa using hfit) h1
  simp only [Nat.add_zero] at hst
  simp [Builtin.clear_, run_underlying hu, hz, hZ, hst]
/-- What is behind moves up, and the last one's place is zero. -/
theorem del_list {X F Z : List Value} {i N s c : Nat} (hF : X.take ((N + 1) * s) = F) (hX : X.length = c * s) (hi : i ≤ N) (hc : N + 1 ≤ c) (hZ : Z.length = s) :
    ((X.take (i * s) ++ F.drop ((i + 1) * s) ++ X.drop (i * s + (F.drop ((i + 1) * s)).length)).take (N * s) ++ Z ++ (X.take (i * s) ++ F.drop ((i + 1) * s) ++ X.drop (i * s + (F.drop ((i + 1) * s)).length)).drop (N * s + Z.length)).take (N * s) = F.take (i * s) ++ F.drop ((i + 1) * s) ∧
    ((X.take (i * s) ++ F.drop ((i + 1) * s) ++ X.drop (i * s + (F.drop ((i + 1) * s)).length)).take (N * s) ++ Z ++ (X.take (i * s) ++ F.drop ((i + 1) * s) ++ X.drop (i * s + (F.drop ((i + 1) * s)).length)).drop (N * s + Z.length)).length = c * s ∧
    (X.take (i * s) ++ F.drop ((i + 1) * s) ++ X.drop (i * s + (F.drop ((i + 1) * s)).length)).length = c * s := by
  have h1 : (i + 1) * s ≤ (N + 1) * s := Nat.mul_le_mul_right _ (by omega)
  have h2 : (N + 1) * s ≤ c * s := Nat.mul_le_mul_right _ hc
  have e1 : (i + 1) * s = i * s + s := by rw [Nat.add_mul, Nat.one_mul]
  have e2 : (N + 1) * s = N * s + s := by rw [Nat.add_mul, Nat.one_mul]
  have hFl : F.length = (N + 1) * s := by rw [← hF, List.length_take]; omega
  have hta : X.take (i * s) = F.take (i * s) := by rw [← hF, List.take_take]; congr 1; omega
  have hlen : (X.take (i * s) ++ F.drop ((i + 1) * s) ++ X.drop (i * s + (F.drop ((i + 1) * s)).length)).length = c * s := by
    simp only [List.length_append, List.length_take, List.length_drop, hFl, hX]
    omega
  have hA : (X.take (i * s) ++ F.drop ((i + 1) * s)).length = N * s := by
    simp only [List.length_append, List.length_take, List.length_drop, hFl, hX]
    omega
  refine ⟨?_, ?_, hlen⟩
  · rw [List.append_assoc, List.take_append_of_le_length (by rw [List.length_take, hlen]; omega), List.take_take, Nat.min_self, List.take_append_of_le_length (by rw [hA]; exact Nat.le_refl _), ← hA, List.take_length, hta]
  · generalize (X.take (i * s) ++ F.drop ((i + 1) * s) ++ X.drop (i * s + (F.drop ((i + 1) * s)).length)) = Y at *
    simp only [List.length_append, List.length_take, List.length_drop, hZ, hlen]
    omega
abbrev zeroEnt : List Value := [.int .i64 0, .slice none 0 0]
theorem zeroEnt_one : ∀ v ∈ zeroEnt, v.oneCell' = true := fun v hv => by
  rcases List.mem_cons.1 hv with rfl | hv
  · rfl
  · obtain rfl := List.mem_singleton.1 hv; rfl
theorem entSize : (Tryz.prog.info? 24).map (·.size) = some 2 := by kernel_rfl
theorem zeroEntV (w : World) : (zeroValue 24).run Tryz.prog w = .ok (.agg #[.int .i64 0, .slice none 0 0]) w := by kernel_rfl
theorem zeroEntC : (Builtin.zeroCells (Value.agg #[.int .i64 0, .slice none 0 0]).cells 1).toList = zeroEnt := by kernel_rfl
theorem slice_both {t e sz : Nat} (hu : Tryz.prog.underlying t = some (.slice e)) (hz : ∀ w, (sizeOf e).run Tryz.prog w = .ok sz w) (base : Option Addr) (n c k m : Nat) (hk : k ≤ m) (hm : m ≤ c) (w : World) :
    (Instr.slice t (.slice base n c) (some (.int .i64 (k : Int))) (some (.int .i64 (m : Int))) none).run Tryz.prog w = .ok (.slice (cutB base c k sz) (m - k) (c - k)) w := by
  have h2 : ((k : Int)).toNat = k := Int.toNat_natCast k
  have h3 : ((m : Int)).toNat = m := Int.toNat_natCast m
  have hur : ∀ w, (underlying t).run Tryz.prog w = .ok (.slice e) w := fun w => by simp [underlying, go_sem, hu]
  simp [Instr.slice, Instr.sliceBounds, Instr.sliceBound, go_sem, hur, hz, hk, hm, cutB]

set_option maxHeartbeats 4000000 in
set_option maxRecDepth 100000 in
theorem delete_calls (S : List ESlot) (i N B : Nat) (v : Value) (w : World) (hi : i ≤ N) (ho : w.ownsRow B 24 2 v (N + 1) (flat eslotC S)) :
    Calls Tryz.prog 72 #[v, .int .i64 i, .int .i64 ((i : Int) + 1)] w fun e w2 => ∃ v2, e = .returned v2 ∧ w2.ownsRow B 24 2 v2 N (flat eslotC (S.take i ++ S.drop (i + 1))) ∧ w.grownBy w2 v.ownBlock := by
  have hlF := ho.1
  rcases ho.2 with ⟨_, h0⟩ | ⟨g, c, cur, rfl, hBg, hg, hnc, hcm, hcs, hF⟩
  · omega
  have HCM := hid hcm
  unfold maxLen at hcm
  have HG : Hid (w.drew.heap[g]? = some (.cells cur 24 (0, 0))) := hg
  obtain ⟨F, hFe⟩ : ∃ F, flat eslotC S = F := ⟨_, rfl⟩
  rw [hFe] at hF hlF
  have HD := hid (del_list (Z := zeroEnt) (s := 2) hF (by simpa using hcs) hi hnc rfl)
  have HFD : Hid (F.take (i * 2) ++ F.drop ((i + 1) * 2) = flat eslotC (S.take i ++ S.drop (i + 1))) := by
    show _ = _
    rw [flat_append, flat_take eslotC_length, flat_drop eslotC_length, hFe]
  have HONE : Hid (∀ u ∈ F.drop ((i + 1) * 2), u.oneCell' = true) := fun u hu => by
    have := List.mem_of_mem_drop hu
    rw [← hFe] at this
    obtain ⟨s, _, h⟩ := List.mem_flatMap.1 this
    exact eslotC_one s u h
  have hdl : (F.drop ((i + 1) * 2)).length = (N - i) * 2 := by rw [List.length_drop, hlF]; omega
  have HDL := hid hdl
  have HBG := hid hBg
  have HFIT : Hid (i * 2 + (F.drop ((i + 1) * 2)).length ≤ cur.size) := by show _ ≤ _; rw [hdl, hcs]; omega
  have HROOM : Hid (i + (N - i) ≤ c) := by show _ ≤ _; omega
  have HFL : Hid ((F.take (i * 2) ++ F.drop ((i + 1) * 2)).length = N * 2) := by show _ = _; rw [List.length_append, List.length_take, hdl, hlF]; omega
  obtain ⟨ad, had, hsrc⟩ : ∃ ad : Addr, cutB (some ⟨g, 0, none⟩) c (i + 1) 2 = some ad ∧ ∀ j u, (F.drop ((i + 1) * 2))[j]? = some u → w.drew.cell? (ad.add j) = some u := by
    by_cases h : c = i + 1
    · refine ⟨⟨g, 0, none⟩, by unfold cutB; rw [if_pos h], fun j u hu => ?_⟩
      have := (List.getElem?_eq_some_iff.1 hu).1
      rw [hdl] at this
      omega
    · refine ⟨⟨g, (i + 1) * 2, none⟩, by unfold cutB; rw [if_neg h]; simp [Addr.add_lit], fun j u hu => ?_⟩
      rw [Addr.add_lit]
      rw [List.getElem?_drop, ← hF] at hu
      have h2 : cur.toList[(i + 1) * 2 + j]? = some u := by
        by_cases hj : (i + 1) * 2 + j < (N + 1) * 2
        · rw [List.getElem?_take_of_lt hj] at hu; exact hu
        · rw [List.getElem?_eq_none (by rw [List.length_take]; omega)] at hu; cases hu
      show w.cell? _ = some u
      simp only [World.cell?, hg, Option.isSome_none, Bool.false_eq_true, if_false]
      simpa using h2
  have HSRC := hid hsrc
  have hne : ((i : Int) == (i : Int) + 1) = false := by simp; omega
  have hic : i ≤ c := by omega
  have hjc : i + 1 ≤ c := by omega
  have hNc : N ≤ c := by omega
  have hNc1 : N + 1 ≤ c := by omega
  have hi2 : (i : Int) ≤ (N : Int) := by omega
  have hs1 := slice_head (t := 33) Tryz.underlying33 Tryz.sizeOf24 (some ⟨g, 0, none⟩) (N + 1) c i hic
  have hs2 : ∀ w, (Instr.slice 33 (.slice (some ⟨g, 0, none⟩) (N + 1) c) (some (.int .i64 ((i : Int) + 1))) none none).run Tryz.prog w = .ok (.slice (some ad) (N - i) (c - (i + 1))) w := fun w => by
    have h := slice_run (t := 33) Tryz.underlying33 Tryz.sizeOf24 (some ⟨g, 0, none⟩) (N + 1) c (i + 1) (by omega) w
    rw [show ((i + 1 : Nat) : Int) = (i : Int) + 1 from by omega, had, show N + 1 - (i + 1) = N - i from by omega] at h
    exact h
  have hs3 : ∀ w, (Instr.slice 33 (.slice (some ⟨g, 0, none⟩) N c) (some (.int .i64 (N : Int))) (some (.int .i64 ((N : Int) + 1))) none).run Tryz.prog w = .ok (.slice (some ⟨g, N * 2, none⟩) 1 (c - N)) w := fun w => by
    have h := slice_both (t := 33) Tryz.underlying33 Tryz.sizeOf24 (some ⟨g, 0, none⟩) N c N (N + 1) (Nat.le_succ _) hNc1 w
    rw [show ((N + 1 : Nat) : Int) = (N : Int) + 1 from by omega, show N + 1 - N = 1 from by omega] at h
    rw [h]
    unfold cutB
    rw [if_neg (by omega)]
    simp [Addr.add_lit]
  have hc0 : cutB (some ⟨g, 0, none⟩) c 0 2 = some ⟨g, 0, none⟩ := by unfold cutB; split <;> simp [Addr.add_lit]
  rw [hc0] at hs1
  have HN : Hid (i + (N - i) = N) := by show _ = _; omega
  clear hsrc hF hFe hlF hcs hBg hg ho hdl hc0 had
  go_enter Tryz.func72, Tryz.ntmps72
  go_wp2_with fail
  go_region_law (refine step_appendIn w.drew rfl _ _ 33 24 2 rfl Tryz.underlying33 entSize g i c cur 24 ad (N - i) (c - (i + 1)) (F.drop ((i + 1) * 2)) rfl rfl HG.out HDL.out HSRC.out HONE.out HROOM.out HFIT.out ?_; intro w1 hg1 hgr1; rw [HN.out])
  obtain ⟨w2, hcl, hg2, hgr2⟩ : ∃ w2, (∀ ty, (Builtin.clear_ #[33] ty #[.slice (some ⟨g, N * 2, none⟩) 1 (c - N)]).run Tryz.prog w1 = .ok (.tuple #[]) w2) ∧ w2.heap[g]? = some (.cells ((cur.toList.take (i * 2) ++ F.drop ((i + 1) * 2) ++ cur.toList.drop (i * 2 + (F.drop ((i + 1) * 2)).length)).take (N * 2) ++ zeroEnt ++ (cur.toList.take (i * 2) ++ F.drop ((i + 1) * 2) ++ cur.toList.drop (i * 2 + (F.drop ((i + 1) * 2)).length)).drop (N * 2 + zeroEnt.length)).toArray 24 (0, 0)) ∧ w1.grownBy w2 (some g) := by
    refine ⟨_, fun ty => run_clearIn w1 33 ty 24 (.agg #[.int .i64 0, .slice none 0 0]) zeroEnt g (N * 2) (c - N) _ 24 Tryz.underlying33 zeroEntV zeroEntC hg1 zeroEnt_one ?_, setRow_heap w1 g _ _ _ _ hg1, grown_setRow _ _ _⟩
    have h := HD.out.2.2
    simp only [List.size_toArray]
    rw [h]
    show N * 2 + 2 ≤ c * 2
    omega
  have HOW : Hid (w2.ownsRow B 24 2 (.slice (some ⟨g, 0, none⟩) N c) N (flat eslotC (S.take i ++ S.drop (i + 1)))) := by
    refine ⟨?_, .inr ⟨g, c, _, rfl, HBG.out, hg2, hNc, HCM.out, ?_, ?_⟩⟩
    · rw [← HFD.out]; exact HFL.out
    · have h := HD.out.2.1
      simp only [List.size_toArray]
      exact h
    · have h := HD.out.1
      rw [← HFD.out]
      exact h
  have HGW : Hid (w.grownBy w2 (some g)) := by
    have h1 : w.grownBy w1 (some g) := ⟨hgr1.os, hgr1.tape, hgr1.output, hgr1.size, hgr1.block⟩
    exact grown_trans h1 hgr2
  clear hg2 hgr2 hg1 hgr1
  go_wp2
  go_ret
  exact ⟨_, rfl, HOW.out, HGW.out⟩
end Go.Proofs.YtagangiilcicpaeGreatDoor

namespace Go.Proofs.YtagangiilcicpaeGreatDoor
open Go.RowKit

end Go.Proofs.YtagangiilcicpaeGreatDoor

namespace Go.Proofs.YtagangiilcicpaeGreatDoor
open Go.RowKit

theorem put7_far {w : World} {b b' : Nat} {cs : Array Value} {t : TypeId} (h : Box w b' cs t) (hne : b' ≠ b) (v0 v1 v2 v3 v4 v5 v6 : Value) : Box (put7 w b v0 v1 v2 v3 v4 v5 v6) b' cs t :=
  ((((((h.far ⟨b, 0, none⟩ hne v0).far ⟨b, 1, none⟩ hne v1).far ⟨b, 2, none⟩ hne v2).far ⟨b, 3, none⟩ hne v3).far ⟨b, 4, none⟩ hne v4).far ⟨b, 5, none⟩ hne v5).far ⟨b, 6, none⟩ hne v6
theorem ready_goE {r0 : List Row} {D : List Deed3} {m : Nat} {dq : Nat → Bool} {bq : ByteArray → Int} {e : Eng} (G : Good r0 D m dq bq e) {q : Nat} (hq : q ∈ readyE e) : goTo e (q : Int) = (goE e q, 0) := by
  obtain ⟨h1, h2, h3⟩ := (ready_mem G).1 hq
  have hl : q < e.deeds.length := by rw [G.len]; omega
  unfold goTo
  rw [if_neg (by omega), Int.toNat_natCast, if_neg (by rw [G.state_at h1, h2]; simp), if_neg (by rw [h3]; simp)]
end Go.Proofs.YtagangiilcicpaeGreatDoor

namespace Go.Proofs.YtagangiilcicpaeGreatDoor
open Go.RowKit

theorem low_five {w : World} {B b : Nat} (hb : B ≤ b) (v0 v1 v2 v3 v4 : Value) : Below B w (((((w.setCell ⟨b, 0, none⟩ v0).setCell ⟨b, 1, none⟩ v1).setCell ⟨b, 2, none⟩ v2).setCell ⟨b, 3, none⟩ v3).setCell ⟨b, 4, none⟩ v4) := put5_below (Below.refl _ _) hb v0 v1 v2 v3 v4
theorem low_seven {w : World} {B b : Nat} (hb : B ≤ b) (v0 v1 v2 v3 v4 v5 v6 : Value) : Below B w (((((((w.setCell ⟨b, 0, none⟩ v0).setCell ⟨b, 1, none⟩ v1).setCell ⟨b, 2, none⟩ v2).setCell ⟨b, 3, none⟩ v3).setCell ⟨b, 4, none⟩ v4).setCell ⟨b, 5, none⟩ v5).setCell ⟨b, 6, none⟩ v6) := put7_below (Below.refl _ _) hb v0 v1 v2 v3 v4 v5 v6
theorem boxnew_drew (w : World) (vs : Array Value) (t : TypeId) : Box (w.alloc (.cells vs t)).drew w.heap.size vs t := Box.new w vs t
theorem box_five {w : World} {b : Nat} {t : TypeId} {u0 u1 u2 u3 u4 : Value} (h : Box w b #[u0, u1, u2, u3, u4] t) (v0 v1 v2 v3 v4 : Value) : Box (((((w.setCell ⟨b, 0, none⟩ v0).setCell ⟨b, 1, none⟩ v1).setCell ⟨b, 2, none⟩ v2).setCell ⟨b, 3, none⟩ v3).setCell ⟨b, 4, none⟩ v4) b #[v0, v1, v2, v3, v4] t := put5_box h v0 v1 v2 v3 v4
theorem off_five (w : World) (b : Nat) (v0 v1 v2 v3 v4 : Value) : Off b w (((((w.setCell ⟨b, 0, none⟩ v0).setCell ⟨b, 1, none⟩ v1).setCell ⟨b, 2, none⟩ v2).setCell ⟨b, 3, none⟩ v3).setCell ⟨b, 4, none⟩ v4) := put5_off w b v0 v1 v2 v3 v4
end Go.Proofs.YtagangiilcicpaeGreatDoor
