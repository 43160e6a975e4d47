/-
  slices.Insert over chains, of one chain, into a row that the call owns: without room for it, and in whatever case.
-/
import Derived.Test.YtfchjhdgnibnnabInsert
namespace Go.Proofs.Ytfchjhdgnibnnab
open Go.RowKit

set_option maxHeartbeats 4000000 in
set_option maxRecDepth 100000 in
theorem insert_grow (S : List Slot) (s : Slot) (i n B c g : Nat) (cur : Array Value) (w : World) (hi : i < n) (hnc : n ≤ c) (hc : c < n + 1) (hn : (n + 1) * 40 ≤ 140737488355328) (hB : B ≤ w.heap.size) (hg : w.heap[g]? = some (.cells cur 61 (0, 0))) (hcs : cur.size = c * 2) (hF : cur.toList.take (n * 2) = flat slotC S) :
    Calls Try.prog 60 #[.slice (some ⟨g, 0, none⟩) n c, .int .i64 i, .slice (some ⟨w.heap.size, 0, none⟩) 1 1] (w.alloc (.cells #[.string s.1, .slice s.2.1 s.2.2.1 s.2.2.2] 61)) fun e w2 =>
      ∃ v2, e = .returned v2 ∧ Inserted (w.alloc (.cells #[.string s.1, .slice s.2.1 s.2.2.1 s.2.2.2] 61)) w2 B n i (.slice (some ⟨g, 0, none⟩) n c) v2 S s := by
  have hgw : g < w.heap.size := (Array.getElem?_eq_some_iff.1 hg).1
  obtain ⟨A, hA⟩ : ∃ A, A = w.alloc (.cells #[.string s.1, .slice s.2.1 s.2.2.1 s.2.2.2] 61) := ⟨_, rfl⟩
  have hgA : A.heap[g]? = some (.cells cur 61 (0, 0)) := by rw [hA, Below.heap_alloc w _ g hgw]; exact hg
  have hsA : A.heap.size = w.heap.size + 1 := by rw [hA, World.size_alloc]
  have hz2 : ¬ ((i : Int) = (n : Int)) := by omega
  have hw1 : IntKind.i64.wrap ((i : Int) + 1) = (i : Int) + 1 := by rw [IntKind.wrap_i64]; omega
  have hin : i ≤ n := by omega
  have hb0 : (c : Int) < (n : Int) + 1 := by omega
  have hb1 : (0 : Int) ≤ (i : Int) + 1 := by omega
  have htn : ((i : Int) + 1).toNat = i + 1 := by omega
  have hb3 : (i : Int) ≤ (n : Int) + 1 := by omega
  have hb4 : ¬ (c = i) := by omega
  have hb5 : (i : Int) + 1 ≤ (n : Int) + 1 := by omega
  have hb6 : (i : Int) ≤ (n : Int) := by omega
  obtain ⟨F, hFe⟩ : ∃ F, F = flat slotC S := ⟨_, rfl⟩
  have hFl : F.length = n * 2 := by rw [hFe, ← hF, List.length_take, Array.length_toList]; omega
  have h1c : ∀ u ∈ F, u.oneCell' = true := by rw [hFe]; exact flatS_one S
  rw [← hFe] at hF
  have hFat : ∀ j u, F[j]? = some u → cur[j]? = some u := fun j u hu => by
    rw [← hF, List.getElem?_take] at hu
    split at hu
    · simpa using hu
    · cases hu
  have FC : Hid ((Builtin.firstCells 2 i (.slice (some ⟨g, 0, none⟩) i c)).run Try.prog A.drew = .ok (F.take (i * 2)).toArray A.drew) := by
    refine run_firstCells_some (P := Try.prog) A.drew 2 i ⟨g, 0, none⟩ i c (F.take (i * 2)) (by rw [List.length_take]; omega) (fun j u hu => ?_)
    rw [Addr.add_lit, Nat.zero_add]
    rw [List.getElem?_take] at hu
    split at hu
    · exact cell_block (w := A.drew) hgA (hFat _ _ hu)
    · cases hu
  have KI : Hid ((n : Int) + 1 - (i : Int) = ((n + 1 - i : Nat) : Int)) := by show _ = _; omega
  have CK : Hid (c < i + (n + 1 - i)) := by show _ < _; omega
  have BK : Hid ((i + (n + 1 - i)) * 40 ≤ 140737488355328) := by show _ ≤ _; rw [show i + (n + 1 - i) = n + 1 from by omega]; exact hn
  have HFE := hid (show F = flat slotC S from hFe)
  have HFL := hid hFl
  have HG := hid hgA
  have HFA := hid hFat
  have O1 : Hid (∀ u ∈ F.drop (i * 2), u.oneCell' = true) := fun u hu => h1c u (List.mem_of_mem_drop hu)
  have O2 := hid (slotC_one s)
  have S2 : Hid (∀ j u, ([.string s.1, .slice s.2.1 s.2.2.1 s.2.2.2] : List Value)[j]? = some u → A.cell? ((⟨w.heap.size, 0, none⟩ : Addr).add j) = some u) := fun j u hu => by
    rw [Addr.add_lit, Nat.zero_add, hA]
    exact box_cell _ _ _ _ _ (by simpa using hu)
  have N1 : Hid ((F.drop (i * 2)).length = (n - i) * 2) := by show _ = _; rw [List.length_drop, hFl]; omega
  have P0 : Hid (0 < n + 1 - i) := by show _ < _; omega
  clear hgA hFe hFl h1c hF hFat hcs hg
  have HSA := hid hsA
  clear hsA
  subst hA
  go_enter Try.func60, Try.ntmps60
  go_wp2_with (at_builtin; refine wpList_zeros _ rfl _ _ 43 3 61 2 40 _ Try.underlying43 Try.underlying3 chnInfo (by decide) rfl (some ⟨g, 0, none⟩) i c (n + 1 - i) _ rfl rfl KI.out (F.take (i * 2)) FC.out P0.out CK.out (by decide) BK.out ?_)
  intro w1 G ROW hr hrl hGe hGm hgr1
  have hik : i + (n + 1 - i) = n + 1 := by omega
  rw [hik] at hGe ⊢
  have HGM := hid hGm
  unfold maxLen at hGm
  have hGi : ¬ (G = i) := by omega
  have hGj : ¬ (G = i + 1) := by omega
  have hE2 : ([.string s.1, .slice s.2.1 s.2.2.1 s.2.2.2] : List Value).length = 2 := rfl
  have hE2' : ([.string s.1, .slice s.2.1 s.2.2.1 s.2.2.2] : List Value).length = 1 * 2 := rfl
  have hRl : ROW.length = (G - i) * 2 := hrl
  have hsz : (F.take (i * 2) ++ ROW).toArray.size = G * 2 := by
    have := HFL.out
    simp only [List.size_toArray, List.length_append, List.length_take]
    omega
  have hsz1 : ((F.take (i * 2) ++ ROW).toArray.toList.take (i * 2) ++ ([.string s.1, .slice s.2.1 s.2.2.1 s.2.2.2] : List Value) ++ (F.take (i * 2) ++ ROW).toArray.toList.drop (i * 2 + ([.string s.1, .slice s.2.1 s.2.2.1 s.2.2.2] : List Value).length)).toArray.size = G * 2 := by
    simp only [List.size_toArray] at hsz
    simp only [List.size_toArray, List.length_append, List.length_take, List.length_drop, hE2] at hsz ⊢
    omega
  obtain ⟨w2, r2, hg2, hgr2⟩ := run_copyX w1 43 3 61 2 (w.heap.size + 1) (i * 2) (n + 1 - i) (G - i) ⟨w.heap.size, 0, none⟩ 1 1 1 _ 61 [.string s.1, .slice s.2.1 s.2.2.1 s.2.2.2] Try.underlying43 chnSize hr
    (by simp only [Nat.min_def]; split <;> omega) hE2' (fun j u hu => by have := S2.out j u hu; rw [Addr.add_lit] at this ⊢; exact hgr1.cell this (by simp)) (by rw [hsz, hE2]; omega) O2.out
  have HSH := hid (grow_list (R := (F.take (i * 2) ++ ROW).toArray.toList) (F := F) (E := [.string s.1, .slice s.2.1 s.2.2.1 s.2.2.2]) (i := i) (n := n) (s := 2) (by
    have := HFL.out
    simp only
    rw [List.take_append_of_le_length (by rw [List.length_take]; omega), List.take_take, Nat.min_self]) HFL.out hin hE2)
  have R2 := hid r2
  have HG2 := hid hg2
  have HGR2 := hid hgr2
  have HGR1 := hid hgr1
  have HS1 := hid hsz1
  have M1 : Hid (Nat.min (n - i) (n - i) = n - i) := by show _ = _; simp only [Nat.min_def]; split <;> omega
  have S1 : Hid (∀ j u, (F.drop (i * 2))[j]? = some u → w2.drew.cell? ((⟨g, i * 2, none⟩ : Addr).add j) = some u) := fun j u hu => by
    rw [Addr.add_lit]
    rw [List.getElem?_drop] at hu
    have h1 := cell_block HG.out (HFA.out _ _ hu)
    exact HGR2.out.cell (HGR1.out.cell h1 (by simp)) (by simp; omega)
  have T1 : Hid ((i + 1) * 2 + (F.drop (i * 2)).length ≤ ((F.take (i * 2) ++ ROW).toArray.toList.take (i * 2) ++ ([.string s.1, .slice s.2.1 s.2.2.1 s.2.2.2] : List Value) ++ (F.take (i * 2) ++ ROW).toArray.toList.drop (i * 2 + ([.string s.1, .slice s.2.1 s.2.2.1 s.2.2.2] : List Value).length)).toArray.size) := by
    show _ ≤ _
    rw [N1.out, HS1.out]; omega
  clear r2 hg2 hgr2 hgr1 hsz hsz1 hr hrl hRl hE2 hE2'
  go_wp2
  rw [R2.out]
  go_wp2
  go_region_law ((refine step_copyN _ rfl _ _ 43 61 2 rfl Try.underlying43 chnSize (w.heap.size + 1) ((i + 1) * 2) (n - i) (G - (i + 1)) ⟨g, i * 2, none⟩ (n - i) (c - i) (n - i) _ 61 (F.drop (i * 2)) (by simp [Act.eval, Act.put]) (by simp [Act.eval, Act.put]) HG2.out M1.out N1.out S1.out T1.out O1.out ?_; intro w3 hg3 hgr3))
  have HIN : Hid (Inserted (w.alloc (.cells #[.string s.1, .slice s.2.1 s.2.2.1 s.2.2.2] 61)) w3 B n i (.slice (some ⟨g, 0, none⟩) n c) (.slice (some ⟨w.heap.size + 1, 0, none⟩) (n + 1) G) S s) := by
    refine ⟨⟨?_, .inr ⟨w.heap.size + 1, G, _, rfl, Nat.le_succ_of_le hB, hg3, hGe, HGM.out, ?_, ?_⟩⟩, ?_⟩
    · rw [flat_append, flat_cons, flat_take slotC_length, flat_drop slotC_length, ← HFE.out]
      simp only [List.length_append, List.length_take, List.length_drop, HFL.out, slotC_length]
      omega
    · have h1 := HS1.out
      have h2 := N1.out
      simp only [List.size_toArray] at h1
      simp only [List.size_toArray, List.length_append, List.length_take, List.length_drop] at h1 h2 ⊢
      omega
    · have h1 := HSH.out
      rw [flat_append, flat_cons, flat_take slotC_length, flat_drop slotC_length, ← HFE.out, ← List.append_assoc]
      exact h1
    · have h1 := HGR1.out
      have h2 := HGR2.out
      have hs : (w.alloc (.cells #[.string s.1, .slice s.2.1 s.2.2.1 s.2.2.2] 61)).heap.size = w.heap.size + 1 := World.size_alloc _ _
      refine ⟨hgr3.os.trans (h2.os.trans h1.os), hgr3.tape.trans (h2.tape.trans h1.tape), hgr3.output.trans (h2.output.trans h1.output), Nat.le_trans (Nat.le_trans h1.size h2.size) hgr3.size, fun k hk hne => ?_⟩
      have hk1 : k < w1.heap.size := Nat.lt_of_lt_of_le hk h1.size
      have hk2 : k < w2.heap.size := Nat.lt_of_lt_of_le hk1 h2.size
      have hkn : some k ≠ some (w.heap.size + 1) := fun e => by cases e; omega
      exact ((hgr3.block k hk2 hkn).trans (h2.block k hk1 hkn)).trans (h1.block k hk (by simp))
  clear hg3 hgr3
  go_wp2
  go_ret
  exact ⟨_, rfl, HIN.out⟩

/-- slices.Insert of one chain into a row that the call owns. -/
theorem insert_calls (S : List Slot) (s : Slot) (i n B : Nat) (v : Value) (w : World) (hi : i ≤ n) (hn : (n + 1) * 40 ≤ 140737488355328) (hB : B ≤ w.heap.size) (ho : w.ownsRow B 61 2 v n (flat slotC S)) :
    Calls Try.prog 60 #[v, .int .i64 i, .slice (some ⟨w.heap.size, 0, none⟩) 1 1] (w.alloc (.cells #[.string s.1, .slice s.2.1 s.2.2.1 s.2.2.2] 61)) fun e w2 =>
      ∃ v2, e = .returned v2 ∧ Inserted (w.alloc (.cells #[.string s.1, .slice s.2.1 s.2.2.1 s.2.2.2] 61)) w2 B n i v v2 S s := by
  by_cases h : i = n
  · subst h; exact insert_end S s i B v w hn hB ho
  · rcases ho.2 with ⟨_, h0⟩ | ⟨g, c, cur, rfl, hBg, hg, hnc, hcm, hcs, hF⟩
    · omega
    · by_cases hc : n + 1 ≤ c
      · exact insert_room S s i n B c g cur w (by omega) hc hcm hBg hg hcs hF
      · exact insert_grow S s i n B c g cur w (by omega) hnc (by omega) hn hB hg hcs hF
end Go.Proofs.Ytfchjhdgnibnnab
