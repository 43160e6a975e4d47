/-
  Proved: for any two deeds and any rows the statement DeedTells of the program returns true and changes nothing; its condition is none.
-/
import Derived.Test.YtkbgknlndcmgbaaRows
import Derived.Test.YtkbgknlndcmgbaaOpenDeed
import Derived.Test.YtkbgknlndcmgbaaLawDeed
import Derived.WalkKit
import Derived.ProofKit
import Derived.OpenShut
import Derived.ShutString
import Derived.ChangeOld
import Derived.Below
namespace Go.Proofs.Ytkbgknlndcmgbaa
open Go.ChangeShapes Go.WideShapes Go.ChangeAt Go.RowKit

theorem bytesStr : Try.prog.bytesOf 9 = 16 := by kernel_rfl
theorem bytesInstr : Try.prog.bytesOf 70 = 48 := by kernel_rfl

/-- The reach of the form bounds the slices of a deed that is read. -/
theorem deed_reach {H : Type} {ts : List TypeId} {ds : List (DataW H)} {d0 d1 d2 : DataW H} {rn rc wn wc cn cc : Nat} (hsz : (DataW.weightsEach Try.prog ts ds).all (· ≤ reachBytes) = true) {j : Nat} (ht : ts[j]? = some 41) (hdj : ds[j]? = some (.agg [d0, d1, d2]))
    (h0 : Room d0 rc) (h1 : Room d1 wc) (h2 : Room d2 cc) (l0 : rn ≤ rc) (l1 : wn ≤ wc) (l2 : cn ≤ cc) : rn * 16 ≤ 140737488355328 ∧ wn * 16 ≤ 140737488355328 ∧ cn * 48 ≤ 140737488355328 := by
  have hall : (DataW.weightsEach Try.prog [38, 38, 39] [d0, d1, d2]).all (· ≤ reachBytes) = true := by
    rw [List.all_eq_true]
    intro n hn
    exact List.all_eq_true.1 hsz n (DataW.weights_mem_each ht hdj n (by simpa [DataW.weights, Try.underlying41] using hn))
  refine ⟨?_, ?_, ?_⟩
  · rcases h0 with ⟨_, rfl⟩ | ⟨elems, spare, rfl, hc⟩
    · omega
    · have := sized_slice (j := 0) hall rfl rfl Try.underlying38
      rw [bytesStr, hc] at this
      simp only [reachBytes] at this
      omega
  · rcases h1 with ⟨_, rfl⟩ | ⟨elems, spare, rfl, hc⟩
    · omega
    · have := sized_slice (j := 1) hall rfl rfl Try.underlying38
      rw [bytesStr, hc] at this
      simp only [reachBytes] at this
      omega
  · rcases h2 with ⟨_, rfl⟩ | ⟨elems, spare, rfl, hc⟩
    · omega
    · have := sized_slice (j := 2) hall rfl rfl Try.underlying39
      rw [bytesInstr, hc] at this
      simp only [reachBytes] at this
      omega
theorem rows_reach2 {H : Type} {ts : List TypeId} {ds : List (DataW H)} {d : DataW H} {cap len : Nat} (hsz : (DataW.weightsEach Try.prog ts ds).all (· ≤ reachBytes) = true) {j : Nat} (ht : ts[j]? = some 23) (hdj : ds[j]? = some d)
    (hd : (d = .nil ∧ cap = 0) ∨ ∃ elems spare : List (DataW H), d = .slice elems spare ∧ elems.length + spare.length = cap) (hl : len ≤ cap) : (len + 40) * 24 ≤ 140737488355328 := by
  rcases hd with ⟨_, rfl⟩ | ⟨elems, spare, rfl, hc⟩
  · omega
  · have := sized_slice hsz ht hdj Try.underlying23
    rw [bytesPair, hc] at this
    simp only [reachBytes] at this
    omega

set_option maxRecDepth 100000 in
theorem dtells_lifted (os : Os) (started : os.Started) (H : Type) (enc : TypeId × Value → H) :
    ReturnsInHanded {} Try.checked os 6 .any (Rows.deedTellsSpec.pre6 enc Try.prog Try.f6 Rows.deedTellsRow.domain false) (Rows.deedTellsSpec.post enc Try.prog Try.f6 false true false false) := by
  refine returnsInHanded_of_change_sized (C := Try.checked) own started (by kernel_rfl) Try.func6
    (ChangeSpec.witness6 (enc := enc) (C := Try.checked) false ⟨#[], #[.agg #[.slice none 0 0, .slice none 0 0, .slice none 0 0], .agg #[.slice none 0 0, .slice none 0 0, .slice none 0 0], .slice none 0 0], []⟩ 8 (by kernel_rfl) (by kernel_rfl) (by kernel_rfl) (by kernel_rfl)) ?_
  intro W base args ds gs before hval0 hW hcnd hsz0 _
  have hval : ∀ (j : Nat) t v, Try.f6.params[j]? = some t → args[j]? = some v → Value.okWide Try.prog W .any base t v := hval0
  have hsz : (DataW.weightsEach Try.prog (Try.f6.params.toList ++ Rows.deedTellsSpec.plain.varTypes Try.prog) (ds ++ gs)).all (· ≤ reachBytes) = true := hsz0
  have hW' := hW
  obtain ⟨p, q, hA0, hV, rfl, hfz, hnd⟩ := hW
  have hA : DataW.TrodAll enc Try.prog W 0 (fun _ => true) true Try.f6.params.toList args.toList ds p := hA0
  rw [Try.params6] at hA hval hsz
  obtain ⟨v0, vs0, d0, ds0, p0, q0, hargs, rfl, rfl, h0, r0⟩ := trodAll_cons hA
  obtain ⟨v1, vs1, d1, ds1, p1, q1, rfl, rfl, rfl, h1, r1⟩ := trodAll_cons r0
  obtain ⟨v2, vs2, d2, ds2, p2, q2, rfl, rfl, rfl, h2, r2⟩ := trodAll_cons r1
  obtain ⟨rfl, rfl, rfl⟩ := trodAll_nil r2
  obtain rfl : args = #[v0, v1, v2] := by cases args; simp_all
  obtain ⟨rfl, rfl⟩ := trodVars_none hV
  have k0 := h0
  have k1 := h1
  have k2 := h2
  have lt0 : ∀ x ∈ p0, x.block < W.heap.size := by obtain ⟨m, hm⟩ := k0; exact DataW.trod_lt m _ _ _ hm
  have lt1 : ∀ x ∈ p1, x.block < W.heap.size := by obtain ⟨m, hm⟩ := k1; exact DataW.trod_lt m _ _ _ hm
  have lt2 : ∀ x ∈ p2, x.block < W.heap.size := by obtain ⟨m, hm⟩ := k2; exact DataW.trod_lt m _ _ _ hm
  obtain ⟨rb, rn, rc, wb, wn, wc, cb, cn, cc, R, Wr, C, rfl, hdi, hsR, hsW, e0, e1, e2, hde, g0, g1, g2⟩ := open_deed (hval 0 41 v0 rfl rfl) h0
  obtain ⟨rb', rn', rc', wb', wn', wc', cb', cn', cc', R', Wr', C', rfl, hdi', _, _, _⟩ := open_deed (hval 1 41 v1 rfl rfl) h1
  obtain ⟨a2, len2, cap2, rfl⟩ := okWide_slice Try.underlying23 (hval 2 23 v2 rfl rfl)
  obtain ⟨l, hho, hsm, _, hd2⟩ := open_rows h2
  subst hde
  have hrb := rows_reach2 hsz (j := 2) rfl rfl hd2 hho.hdr.le
  obtain ⟨b0, b1, b2⟩ := deed_reach hsz (j := 0) rfl rfl g0 g1 g2 hdi.tr.hdr.le hdi.tw.hdr.le hdi.cd.hdr.le
  clear hA0 hval0 hsz0
  refine (deedTells_calls R Wr C R' Wr' C' l rb rn rc wb wn wc cb cn cc rb' rn' rc' wb' wn' wc' cb' cn' cc' a2 len2 cap2 W hdi hdi' hsR hsW hho hsm b0 b1 b2 hrb).mono fun e W' ⟨he, bel⟩ => ?_
  subst he
  exact ⟨_, rfl, _, _, _, [], _, [], hW', trodAll_mk1 (shut_bool Try.underlying4 _), (trodAll_cons_mk (Below.trod laidOut (by kernel_rfl) (of_decide_eq_true (by kernel_rfl)) k0 bel lt0) (trodAll_cons_mk (Below.trod laidOut (by kernel_rfl) (of_decide_eq_true (by kernel_rfl)) k1 bel lt1) (trodAll_cons_mk (Below.trod laidOut (by kernel_rfl) (of_decide_eq_true (by kernel_rfl)) k2 bel lt2) trodAll_mk0))), rfl, bel.frame _, fun h => by cases h⟩

theorem deedTells_holds : Rows.DeedTellsSaid :=
  OpenClaim.holds_of_wide 6 Try.f6 rfl rfl rfl rfl rfl rfl rfl ⟨rfl, rfl, rfl, rfl, rfl⟩ rfl rfl rfl rfl rfl (by kernel_rfl) Try.func6 (by kernel_rfl)
    (of_decide_eq_true (by kernel_rfl)) (by unfold Func.isWrapper; first | (rw [if_pos (by decide +kernel)]; kernel_rfl) | (rw [if_neg (by decide +kernel)]; exact ⟨rfl, rfl⟩))
    (fun os started H enc _ => dtells_lifted os started H enc)
end Go.Proofs.Ytkbgknlndcmgbaa
