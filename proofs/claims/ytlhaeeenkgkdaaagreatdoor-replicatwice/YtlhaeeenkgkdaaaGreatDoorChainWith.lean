/-
  slices.Insert over chains, of one chain, into a row that the call owns: without room for it, and in whatever case.
  with of the program: chains in which a key's versions are turned by a closure; so Add and Set.
-/
import Derived.Test.YtlhaeeenkgkdaaaGreatDoorInsert
namespace Go.Proofs.YtlhaeeenkgkdaaaGreatDoor
open Go.RowKit

set_option maxHeartbeats 4000000 in
set_option maxRecDepth 100000 in
theorem insert_grow (S : List Slot) (s : Slot) (i n B c g : Nat) (cur : Array Value) (w : World) (hi : i < n) (hnc : n ≤ c) (hc : c < n + 1) (hn : (n + 1) * 40 ≤ 140737488355328) (hB : B ≤ w.heap.size) (hg : w.heap[g]? = some (.cells cur 115 (0, 0))) (hcs : cur.size = c * 2) (hF : cur.toList.take (n * 2) = flat slotC S) :
   Calls Tryz.prog 125 #[.slice (some ⟨g, 0, none⟩) n c, .int .i64 i, .slice (some ⟨w.heap.size, 0, none⟩) 1 1] (w.alloc (.cells #[.string s.1, .slice s.2.1 s.2.2.1 s.2.2.2] 115)) fun e w2 =>
     ∃ v2, e = .returned v2 ∧ Inserted (w.alloc (.cells #[.string s.1, .slice s.2.1 s.2.2.1 s.2.2.2] 115)) w2 B n i (.slice (some ⟨g, 0, none⟩) n c) v2 S s := by
 have hgw : g < w.heap.size := (Array.getElem?_eq_some_iff.1 hg).1
 obtain ⟨A, hA⟩ : ∃ A, A = w.alloc (.cells #[.string s.1, .slice s.2.1 s.2.2.1 s.2.2.2] 115) := ⟨_, rfl⟩
 have hgA : A.heap[g]? = some (.cells cur 115 (0, 0)) := by rw [hA, Below.heap_alloc w _ g hgw]; exact hg
 have hsA : A.heap.size = w.heap.size + 1 := by rw [hA, World.size_alloc]
 have hz2 : ¬ ((i : Int) = (n : Int)) := by omega
 have hw1 : IntKind.i64.wrap ((i : Int) + 1) = (i : Int) + 1 := by rw [IntKind.wrap_i64]; omega
 have hin : i ≤ n := by omega
 have hb0 : (c : Int) < (n : Int) + 1 := by omega
 have hb1 : (0 : Int) ≤ (i : Int) + 1 := by omega
 have htn : ((i : Int) + 1).toNat = i + 1 := by omega
 have hb3 : (i : Int) ≤ (n : Int) + 1 := by omega
 have hb4 : ¬ (c = i) := by omega
 have hb5 : (i : Int) + 1 ≤ (n : Int) + 1 := by omega
 have hb6 : (i : Int) ≤ (n : Int) := by omega
 obtain ⟨F, hFe⟩ : ∃ F, F = flat slotC S := ⟨_, rfl⟩
 have hFl : F.length = n * 2 := by rw [hFe, ← hF, List.length_take, Array.length_toList]; omega
 have h1c : ∀ u ∈ F, u.oneCell' = true := by rw [hFe]; exact flatS_one S
 rw [← hFe] at hF
 have hFat : ∀ j u, F[j]? = some u → cur[j]? = some u := fun j u hu => by
   rw [← hF, List.getElem?_take] at hu
   split at hu
   · simpa using hu
   · cases hu
 have FC : Hid ((Builtin.firstCells 2 i (.slice (some ⟨g, 0, none⟩) i c)).run Tryz.prog A.drew = .ok (F.take (i * 2)).toArray A.drew) := by
   refine run_firstCells_some (P := Tryz.prog) A.drew 2 i ⟨g, 0, none⟩ i c (F.take (i * 2)) (by rw [List.length_take]; omega) (fun j u hu => ?_)
   rw [Addr.add_lit, Nat.zero_add]
   rw [List.getElem?_take] at hu
   split at hu
   · exact cell_block (w := A.drew) hgA (hFat _ _ hu)
   · cases hu
 have KI : Hid ((n : Int) + 1 - (i : Int) = ((n + 1 - i : Nat) : Int)) := by show _ = _; omega
 have CK : Hid (c < i + (n + 1 - i)) := by show _ < _; omega
 have BK : Hid ((i + (n + 1 - i)) * 40 ≤ 140737488355328) := by show _ ≤ _; rw [show i + (n + 1 - i) = n + 1 from by omega]; exact hn
 have HFE := hid (show F = flat slotC S from hFe)
 have HFL := hid hFl
 have HG := hid hgA
 have HFA := hid hFat
 have O1 : Hid (∀ u ∈ F.drop (i * 2), u.oneCell' = true) := fun u hu => h1c u (List.mem_of_mem_drop hu)
 have O2 := hid (slotC_one s)
 have S2 : Hid (∀ j u, ([.string s.1, .slice s.2.1 s.2.2.1 s.2.2.2] : List Value)[j]? = some u → A.cell? ((⟨w.heap.size, 0, none⟩ : Addr).add j) = some u) := fun j u hu => by
   rw [Addr.add_lit, Nat.zero_add, hA]
   exact box_cell _ _ _ _ _ (by simpa using hu)
 have N1 : Hid ((F.drop (i * 2)).length = (n - i) * 2) := by show _ = _; rw [List.length_drop, hFl]; omega
 have P0 : Hid (0 < n + 1 - i) := by show _ < _; omega
 clear hgA hFe hFl h1c hF hFat hcs hg
 have HSA := hid hsA
 clear hsA
 subst hA
 go_enter Tryz.func125, Tryz.ntmps125
 go_wp2_with (at_builtin; refine wpList_zeros _ rfl _ _ 30 3 115 2 40 _ Tryz.underlying30 Tryz.underlying3 chnInfo (by decide) rfl (some ⟨g, 0, none⟩) i c (n + 1 - i) _ rfl rfl KI.out (F.take (i * 2)) FC.out P0.out CK.out (by decide) BK.out ?_)
 intro w1 G ROW hr hrl hGe hGm hgr1
 have hik : i + (n + 1 - i) = n + 1 := by omega
 rw [hik] at hGe ⊢
 have HGM := hid hGm
 unfold maxLen at hGm
 have hGi : ¬ (G = i) := by omega
 have hGj : ¬ (G = i + 1) := by omega
 have hE2 : ([.string s.1, .slice s.2.1 s.2.2.1 s.2.2.2] : List Value).length = 2 := rfl
 have hE2' : ([.string s.1, .slice s.2.1 s.2.2.1 s.2.2.2] : List Value).length = 1 * 2 := rfl
 have hRl : ROW.length = (G - i) * 2 := hrl
 have hsz : (F.take (i * 2) ++ ROW).toArray.size = G * 2 := by
   have := HFL.out
   simp only [List.size_toArray, List.length_append, List.length_take]
   omega
 have hsz1 : ((F.take (i * 2) ++ ROW).toArray.toList.take (i * 2) ++ ([.string s.1, .slice s.2.1 s.2.2.1 s.2.2.2] : List Value) ++ (F.take (i * 2) ++ ROW).toArray.toList.drop (i * 2 + ([.string s.1, .slice s.2.1 s.2.2.1 s.2.2.2] : List Value).length)).toArray.size = G * 2 := by
   simp only [List.size_toArray] at hsz
   simp only [List.size_toArray, List.length_append, List.length_take, List.length_drop, hE2] at hsz ⊢
   omega
 obtain ⟨w2, r2, hg2, hgr2⟩ := run_copyX w1 30 3 115 2 (w.heap.size + 1) (i * 2) (n + 1 - i) (G - i) ⟨w.heap.size, 0, none⟩ 1 1 1 _ 115 [.string s.1, .slice s.2.1 s.2.2.1 s.2.2.2] Tryz.underlying30 chnSize hr
   (by simp only [Nat.min_def]; split <;> omega) hE2' (fun j u hu => by have := S2.out j u hu; rw [Addr.add_lit] at this ⊢; exact hgr1.cell this (by simp)) (by rw [hsz, hE2]; omega) O2.out
 have HSH := hid (grow_list (R := (F.take (i * 2) ++ ROW).toArray.toList) (F := F) (E := [.string s.1, .slice s.2.1 s.2.2.1 s.2.2.2]) (i := i) (n := n) (s := 2) (by
   have := HFL.out
   simp only
   rw [List.take_append_of_le_length (by rw [List.length_take]; omega), List.take_take, Nat.min_self]) HFL.out hin hE2)
 have R2 := hid r2
 have HG2 := hid hg2
 have HGR2 := hid hgr2
 have HGR1 := hid hgr1
 have HS1 := hid hsz1
 have M1 : Hid (Nat.min (n - i) (n - i) = n - i) := by show _ = _; simp only [Nat.min_def]; split <;> omega
 have S1 : Hid (∀ j u, (F.drop (i * 2))[j]? = some u → w2.drew.cell? ((⟨g, i * 2, none⟩ : Addr).add j) = some u) := fun j u hu => by
   rw [Addr.add_lit]
   rw [List.getElem?_drop] at hu
   have h1 := cell_block HG.out (HFA.out _ _ hu)
   exact HGR2.out.cell (HGR1.out.cell h1 (by simp)) (by simp; omega)
 have T1 : Hid ((i + 1) * 2 + (F.drop (i * 2)).length ≤ ((F.take (i * 2) ++ ROW).toArray.toList.take (i * 2) ++ ([.string s.1, .slice s.2.1 s.2.2.1 s.2.2.2] : List Value) ++ (F.take (i * 2) ++ ROW).toArray.toList.drop (i * 2 + ([.string s.1, .slice s.2.1 s.2.2.1 s.2.2.2] : List Value).length)).toArray.size) := by
   show _ ≤ _
   rw [N1.out, HS1.out]; omega
 clear r2 hg2 hgr2 hgr1 hsz hsz1 hr hrl hRl hE2 hE2'
 go_wp2
 rw [R2.out]
 go_wp2
 go_region_law ((refine step_copyN _ rfl _ _ 30 115 2 rfl Tryz.underlying30 chnSize (w.heap.size + 1) ((i + 1) * 2) (n - i) (G - (i + 1)) ⟨g, i * 2, none⟩ (n - i) (c - i) (n - i) _ 115 (F.drop (i * 2)) (by simp [Act.eval, Act.put]) (by simp [Act.eval, Act.put]) HG2.out M1.out N1.out S1.out T1.out O1.out ?_; intro w3 hg3 hgr3))
 have HIN : Hid (Inserted (w.alloc (.cells #[.string s.1, .slice s.2.1 s.2.2.1 s.2.2.2] 115)) w3 B n i (.slice (some ⟨g, 0, none⟩) n c) (.slice (some ⟨w.heap.size + 1, 0, none⟩) (n + 1) G) S s) := by
   refine ⟨⟨?_, .inr ⟨w.heap.size + 1, G, _, rfl, Nat.le_succ_of_le hB, hg3, hGe, HGM.out, ?_, ?_⟩⟩, ?_⟩
   · rw [flat_append, flat_cons, flat_take slotC_length, flat_drop slotC_length, ← HFE.out]
     simp only [List.length_append, List.length_take, List.length_drop, HFL.out, slotC_length]
     omega
   · have h1 := HS1.out
     have h2 := N1.out
     simp only [List.size_toArray] at h1
     simp only [List.size_toArray, List.length_append, List.length_take, List.length_drop] at h1 h2 ⊢
     omega
   · have h1 := HSH.out
     rw [flat_append, flat_cons, flat_take slotC_length, flat_drop slotC_length, ← HFE.out, ← List.append_assoc]
     exact h1
   · have h1 := HGR1.out
     have h2 := HGR2.out
     have hs : (w.alloc (.cells #[.string s.1, .slice s.2.1 s.2.2.1 s.2.2.2] 115)).heap.size = w.heap.size + 1 := World.size_alloc _ _
     refine ⟨hgr3.os.trans (h2.os.trans h1.os), hgr3.tape.trans (h2.tape.trans h1.tape), hgr3.output.trans (h2.output.trans h1.output), Nat.le_trans (Nat.le_trans h1.size h2.size) hgr3.size, fun k hk hne => ?_⟩
     have hk1 : k < w1.heap.size := Nat.lt_of_lt_of_le hk h1.size
     have hk2 : k < w2.heap.size := Nat.lt_of_lt_of_le hk1 h2.size
     have hkn : some k ≠ some (w.heap.size + 1) := fun e => by cases e; omega
     exact ((hgr3.block k hk2 hkn).trans (h2.block k hk1 hkn)).trans (h1.block k hk (by simp))
 clear hg3 hgr3
 go_wp2
 go_ret
 exact ⟨_, rfl, HIN.out⟩

theorem insert_calls (S : List Slot) (s : Slot) (i n B : Nat) (v : Value) (w : World) (hi : i ≤ n) (hn : (n + 1) * 40 ≤ 140737488355328) (hB : B ≤ w.heap.size) (ho : w.ownsRow B 115 2 v n (flat slotC S)) :
   Calls Tryz.prog 125 #[v, .int .i64 i, .slice (some ⟨w.heap.size, 0, none⟩) 1 1] (w.alloc (.cells #[.string s.1, .slice s.2.1 s.2.2.1 s.2.2.2] 115)) fun e w2 =>
     ∃ v2, e = .returned v2 ∧ Inserted (w.alloc (.cells #[.string s.1, .slice s.2.1 s.2.2.1 s.2.2.2] 115)) w2 B n i v v2 S s := by
 by_cases h : i = n
 · subst h; exact insert_end S s i B v w hn hB ho
 · rcases ho.2 with ⟨_, h0⟩ | ⟨g, c, cur, rfl, hBg, hg, hnc, hcm, hcs, hF⟩
   · omega
   · by_cases hc : n + 1 ≤ c
     · exact insert_room S s i n B c g cur w (by omega) hc hcm hBg hg hcs hF
     · exact insert_grow S s i n B c g cur w (by omega) hnc (by omega) hn hB hg hcs hF
end Go.Proofs.YtlhaeeenkgkdaaaGreatDoor

namespace Go.Proofs.YtlhaeeenkgkdaaaGreatDoor
open Go.RowKit

theorem getD_setL {α : Type} [Inhabited α] (l : List α) (p i : Nat) (x : α) (hp : p < l.length) : (l.set p x).getD i default = if i = p then x else l.getD i default := by
 by_cases e : i = p
 · subst e; simp [List.getD, hp]
 · rw [if_neg e]; simp [List.getD, Ne.symm e]
theorem getD_ins {α : Type} [Inhabited α] (l : List α) (p i : Nat) (x : α) (hp : p ≤ l.length) : (l.take p ++ x :: l.drop p).getD i default = if i < p then l.getD i default else if i = p then x else l.getD (i - 1) default := by
 have hl : (l.take p).length = p := by rw [List.length_take]; omega
 by_cases h1 : i < p
 · rw [if_pos h1]
   simp [List.getD, List.getElem?_append_left (show i < (l.take p).length by omega), h1]
 · rw [if_neg h1]
   simp only [List.getD, List.getElem?_append_right (show (l.take p).length ≤ i by omega), hl]
   by_cases h2 : i = p
   · subst h2; simp
   · rw [if_neg h2]
     obtain ⟨m, hm⟩ : ∃ m, i - p = m + 1 := ⟨i - p - 1, by omega⟩
     rw [hm, List.getElem?_cons_succ, List.getElem?_drop, show p + m = i - 1 from by omega]
theorem flat_set {α : Type} {f : α → List Value} {k : Nat} (hk : ∀ x, (f x).length = k) (u : Value) : ∀ (l : List α) (p j : Nat) (x y : α), p < l.length → j < k → l[p]? = some x → f y = (f x).set j u → (flat f l).set (p * k + j) u = flat f (l.set p y)
 | [], p, _, _, _, h, _, _, _ => absurd h (Nat.not_lt_zero _)
 | z :: l, 0, j, x, y, _, hj, hx, hy => by
   simp only [List.getElem?_cons_zero, Option.some.injEq] at hx
   subst hx
   rw [List.set_cons_zero, flat_cons, flat_cons, hy, Nat.zero_mul, Nat.zero_add, List.set_append_left _ _ (by rw [hk]; exact hj)]
 | z :: l, p + 1, j, x, y, h, hj, hx, hy => by
   rw [List.set_cons_succ, flat_cons, flat_cons, ← flat_set hk u l p j x y (by simpa using h) hj (by simpa using hx) hy]
   rw [List.set_append_right _ _ (by rw [hk, Nat.add_mul]; omega), hk]
   congr 2
   rw [Nat.add_mul]; omega
theorem slot_set (s : Slot) (v : Value) (b : Option Addr) (n c : Nat) (hv : v = .slice b n c) : slotC (s.1, b, n, c) = (slotC s).set 1 v := by subst hv; rfl
theorem slots_set {w w3 : World} {B g n c p : Nat} {S : List Slot} {L : List Chn} {xs : List Value} (hs : OwnSlots w B S L) (hp : p < L.length) (hg : w.grownBy w3 (slotV (S.getD p default)).ownBlock) (hrow : w3.ownsRow B 115 2 (.slice (some ⟨g, 0, none⟩) n c) n xs)
   (s' : Slot) (x' : Chn) (hk : s'.1 = x'.1) (hz : x'.1.size ≤ maxLen) (hnew : OwnsV w3 B (slotV s') x'.2) (o : Nat) (u : Value) (B' : Nat) : SlotsAre (w3.setCell ⟨g, o, none⟩ u) B' 78 (S.set p s') (L.set p x') := by
 have hgr := (World.ownsRow.stored hrow o u).2
 have keep : ∀ v l, OwnsV w3 B v l → OwnsV (w3.setCell ⟨g, o, none⟩ u) B v l := fun v l h => h.kept hgr (rows_apart h hrow (by decide))
 have isl : ∀ s x, s.1 = x.1 → x.1.size ≤ maxLen → OwnsV (w3.setCell ⟨g, o, none⟩ u) B (slotV s) x.2 → SlotIs (w3.setCell ⟨g, o, none⟩ u) B' 78 s x := fun s x h1 h2 h3 => by
   obtain ⟨b, c', e, hl⟩ := Lies.owned h3
   simp only [Value.slice.injEq] at e
   obtain ⟨e1, e2, e3⟩ := e
   rw [slotV, e1, e2, e3] at h3
   refine ⟨h1, by rw [e1, e2, e3]; exact hl, by rw [e1, e2]; exact Lies.kind h3 B', h2⟩
 have hpS : p < S.length := by rw [hs.len]; exact hp
 refine ⟨by simp [hs.len], fun i hi => ?_⟩
 have hi' : i < L.length := by simpa using hi
 rw [getD_setL S p i s' hpS, getD_setL L p i x' hp]
 by_cases e : i = p
 · rw [if_pos e, if_pos e]
   exact isl s' x' hk hz (keep _ _ hnew)
 · rw [if_neg e, if_neg e]
   refine isl _ _ (hs.key i hi').1 (hs.key i hi').2 (keep _ _ ((hs.own i hi').kept hg ?_))
   cases ho : (slotV (S.getD i default)).ownBlock with
   | none => exact .inl rfl
   | some a =>
     refine .inr fun e2 => ?_
     rcases Nat.lt_or_gt_of_ne e with h | h
     · exact hs.apart i p h hp a ho e2.symm
     · exact hs.apart p i h hi' a e2.symm ho
theorem slots_ins {w : World} {B t p : Nat} {S : List Slot} {L : List Chn} {s : Slot} {x : Chn} (h : SlotsAre w B t S L) (hs : SlotIs w B t s x) (hp : p ≤ L.length) : SlotsAre w B t (S.take p ++ s :: S.drop p) (L.take p ++ x :: L.drop p) := by
 have hl := h.1
 refine ⟨by simp; omega, fun i hi => ?_⟩
 have hi' : i < L.length + 1 := by simp at hi; omega
 rw [getD_ins S p i s (by omega), getD_ins L p i x hp]
 by_cases h1 : i < p
 · rw [if_pos h1, if_pos h1]; exact h.2 i (by omega)
 · rw [if_neg h1, if_neg h1]
   by_cases h2 : i = p
   · rw [if_pos h2, if_pos h2]; exact hs
   · rw [if_neg h2, if_neg h2]; exact h.2 (i - 1) (by omega)
theorem own_slot {w : World} {B B' : Nat} {s : Slot} {x : Chn} (h1 : s.1 = x.1) (h2 : x.1.size ≤ maxLen) (h3 : OwnsV w B (slotV s) x.2) : SlotIs w B' 78 s x := by
 obtain ⟨b, c', e, hl⟩ := Lies.owned h3
 simp only [Value.slice.injEq] at e
 obtain ⟨e1, e2, e3⟩ := e
 rw [slotV, e1, e2, e3] at h3
 exact ⟨h1, by rw [e1, e2, e3]; exact hl, by rw [e1, e2]; exact Lies.kind h3 B', h2⟩

def Turns (w : World) (F : Nat) (caps : Array Value) (f : List Ver → List Ver) : Prop :=
 ∀ (W : World) (v : Value) (l : List Ver), Below w.heap.size w W → OwnsV W w.heap.size v l → Rise l → l.length ≤ 1954687338214 →
   Calls Tryz.prog F (#[v] ++ caps) W fun e w' => ∃ v', e = .returned v' ∧ OwnsV w' w.heap.size v' (f l) ∧ W.grownBy w' v.ownBlock

def ChainsToldK (w w' : World) (L : List Chn) (e : Ending) : Prop := ∃ (base : Option Addr) (n c : Nat), e = .returned (.slice base n c) ∧ ChK w' base n c L ∧ Below w.heap.size w w'
def ChainsTold (w w' : World) (L : List Chn) (e : Ending) : Prop := ∃ (base : Option Addr) (n c : Nat), e = .returned (.slice base n c) ∧ ChainsIn w' base n c L ∧ Below w.heap.size w w'

set_option maxHeartbeats 2000000 in
set_option maxRecDepth 100000 in
theorem withC_calls (L : List Chn) (base : Option Addr) (n c : Nat) (k : ByteArray) (F : Nat) (caps : Array Value) (f : List Ver → List Ver) (w : World) (hf : FitC L) (ha : ChainsIn w base n c L) (hk : k.size ≤ maxLen) (hcf : Entered F) (ht : Turns w F caps f) :
   Calls Tryz.prog 105 #[.slice base n c, .string k, .func (.func F) #[] caps] w fun e w' => ChainsToldK w w' (withC k f L) e := by
 have hcn : n ≤ 387420489 := by rw [ha.len]; exact hf.count
 have HO := hid (ownC_calls L base n c w hf ha)
 have HN := hid ha.len
 have HF := hid hf
 have HT := hid ht
 have HK := hid hk
 have HPL := hid (posC_le k L)
 unfold Entered at hcf
 clear hf ha ht hk
 cases hat : isAtC k L with
 | true =>
   have HAT : Hid (posC k L < L.length ∧ (L.getD (posC k L) default).1 = k) := by
     show _ ∧ _
     unfold isAtC at hat
     simp only [Bool.and_eq_true, decide_eq_true_eq] at hat
     exact hat
   have HW : Hid (withC k f L = L.set (posC k L) (k, f (L.getD (posC k L) default).2)) := by
     show _ = _
     unfold withC; rw [if_pos hat]
   have HFI := hid (fun b1 c1 W h1 h2 => findC_calls L b1 n c1 k W h1 HF.out.srt h2)
   rw [hat] at HFI
   clear hat
   generalize posC k L = p at *
   have hpn : p < n := by rw [HN.out]; exact HAT.out.1
   have hi : (p : Int) < (n : Int) := by omega
   go_enter Tryz.func105, Tryz.ntmps105
   go_wp2_with fail
   refine HO.out.mono ?_
   rintro e w1 ⟨v, S, rfl, ho, hsl, hb⟩
   obtain ⟨base1, c1, rfl, hch⟩ := chains_owned ho hsl
   have HO1 := hid ho
   have HS1 := hid hsl
   have HB1 := hid hb
   have HC1 := hid (HFI.out base1 c1 w1 (by omega) hch)
   clear ho hsl hb hch HO
   go_wp2_with fail
   refine HC1.out.mono ?_
   rintro e w2 ⟨rfl, hb2⟩
   have HB2 := hid (below_deep HB1.out hb2)
   have HO2 := hid (owns_keep HO1.out hb2)
   have HS2 := hid (HS1.out.below hb2)
   obtain ⟨g, rfl⟩ : ∃ g, base1 = some ⟨g, 0, none⟩ := by
     rcases HO2.out.2 with ⟨_, h0⟩ | ⟨g, cap, cur, h', _⟩
     · omega
     · simp only [Value.slice.injEq] at h'
       exact ⟨g, h'.1⟩
   have hpS : p < S.length := by rw [HS2.out.len]; exact HAT.out.1
   have hgw : g < w2.heap.size := (HO2.out.lt g rfl).2
   have c0 : w2.cell? ⟨g, p * 2 + 1, none⟩ = some (slotV (S.getD p default)) := by
     rw [World.ownsRow.cellAt HO2.out _ (by omega)]
     exact flat_at slotC_length S p hpS 1 _ rfl
   have HCF := hid (HT.out w2 _ _ HB2.out (HS2.out.own p HAT.out.1) (HF.out.rise _ (memC HAT.out.1)) (HF.out.few _ (memC HAT.out.1)))
   clear hb2 HC1 HFI
   have HNE : Hid (some g ≠ (slotV (S.getD p default)).ownBlock) := by
     rcases rows_apart HO2.out (HS2.out.own p HAT.out.1) (by decide) with h | h
     · simp [Value.ownBlock] at h
     · intro e; exact h (by rw [← e]; rfl)
   rcases hsp : S.getD p default with ⟨sk, sb, sn, sc⟩
   rw [hsp] at c0 HCF HNE
   have HSP := hid hsp
   simp only [slotV] at c0 HCF
   clear hsp
   go_wp2_with fail
   refine HCF.out.mono ?_
   rintro e w3 ⟨v', rfl, hov, hgr⟩
   have c3 := hgr.cell c0 HNE.out
   have hgw3 : g < w3.heap.size := Nat.lt_of_lt_of_le hgw hgr.size
   have HO3 := hid (HO2.out.kept hgr (.inr (by simpa [Value.ownBlock] using HNE.out)))
   have hfz := World.ownsRow.frozenAt HO3.out (p * 2 + 1)
   obtain ⟨vb, vc, rfl, hvl⟩ := Lies.owned hov
   have HFIN : Hid (ChK (w3.setCell ⟨g, p * 2 + 1, none⟩ (.slice vb (f (L.getD p default).2).length vc)) (some ⟨g, 0, none⟩) n c1 (withC k f L)) := by
     have st := (World.ownsRow.stored HO3.out (p * 2 + 1) (.slice vb (f (L.getD p default).2).length vc)).1
     have hget : S[p]? = some (sk, sb, sn, sc) := by
       rw [← HSP.out]
       simp [List.getD, hpS]
     rw [flat_set slotC_length _ S p 1 _ (sk, vb, (f (L.getD p default).2).length, vc) hpS (by omega) hget (slot_set (sk, sb, sn, sc) _ _ _ _ rfl)] at st
     obtain ⟨b', c', e, hl⟩ := Lies.owned st
     simp only [Value.slice.injEq, true_and] at e
     obtain ⟨e1, e2⟩ := e
     rw [← e1, ← e2] at hl
     have hkey : sk = k := by
       have := (HS2.out.key p HAT.out.1).1
       rw [HSP.out, HAT.out.2] at this
       exact this
     have hsl := slots_set HS2.out HAT.out.1 (by rw [HSP.out]; exact hgr) HO3.out (sk, vb, (f (L.getD p default).2).length, vc) (k, f (L.getD p default).2) hkey HK.out hov (p * 2 + 1) (.slice vb (f (L.getD p default).2).length vc) 0
     rw [HW.out]
     exact ⟨_, hl, Kind.owned st, hsl⟩
   have HBF : Hid (Below w.heap.size w (w3.setCell ⟨g, p * 2 + 1, none⟩ (.slice vb (f (L.getD p default).2).length vc))) := by
     have hown := HS2.out.own p HAT.out.1
     rw [HSP.out] at hown
     exact (HB2.out.grown hgr HB2.out.size (fun a h => (hown.lt a h).1)).setCell (p := ⟨g, p * 2 + 1, none⟩) (HO2.out.lt g rfl).1 _
   clear hov hgr hvl
   generalize (f (L.getD p default).2).length = fn at *
   go_wp2
   go_ret
   exact ⟨_, _, _, rfl, HFIN.out, HBF.out⟩
 | false =>
   have HFI := hid (fun b1 c1 W h1 h2 => findC_calls L b1 n c1 k W h1 HF.out.srt h2)
   rw [hat] at HFI
   have HW : Hid (withC k f L = if f [] = [] then L else L.take (posC k L) ++ (k, f []) :: L.drop (posC k L)) := by
     show _ = _
     unfold withC; rw [if_neg (by rw [hat]; simp)]
   clear hat
   generalize posC k L = p at *
   have hpn : p ≤ n := by rw [HN.out]; exact HPL.out
   go_enter Tryz.func105, Tryz.ntmps105
   go_wp2_with fail
   refine HO.out.mono ?_
   rintro e w1 ⟨v, S, rfl, ho, hsl, hb⟩
   obtain ⟨base1, c1, rfl, hch⟩ := chains_owned ho hsl
   have HO1 := hid ho
   have HS1 := hid hsl
   have HB1 := hid hb
   have HC1 := hid (HFI.out base1 c1 w1 (by omega) hch)
   clear ho hsl hb hch HO
   go_wp2_with fail
   refine HC1.out.mono ?_
   rintro e w2 ⟨rfl, hb2⟩
   have HB2 := hid (below_deep HB1.out hb2)
   have HO2 := hid (owns_keep HO1.out hb2)
   have HS2 := hid (HS1.out.below hb2)
   have HCF := hid (HT.out w2 (.slice none 0 0) [] HB2.out (World.ownsRow_nil _ _ _ _) List.Pairwise.nil (by simp))
   clear hb2 HC1 HFI
   go_wp2_with fail
   refine HCF.out.mono ?_
   rintro e w3 ⟨v', rfl, hov, hgr⟩
   have HB3 := hid (HB2.out.grown hgr HB2.out.size (fun a h => by cases h))
   have HO3 := hid (HO2.out.kept hgr (by show _ ∨ _ ≠ none; cases Value.ownBlock (Value.slice base1 n c1) <;> simp))
   have HS3 : Hid (SlotsAre w3 0 78 S L) :=
     (OwnSlots.are ⟨HS2.out.len, HS2.out.key, fun i hi => (HS2.out.own i hi).kept hgr (by show _ ∨ _ ≠ none; cases Value.ownBlock (slotV (S.getD i default)) <;> simp), HS2.out.apart⟩ _)
   obtain ⟨vb, vc, rfl, hvl⟩ := Lies.owned hov
   have HOV := hid hov
   clear hov hgr hvl HCF HS2 HO2 HS1 HO1
   by_cases hfl : f [] = []
   · have HFIN : Hid (ChK w3 base1 n c1 (withC k f L)) := by
       show ChK _ _ _ _ _
       rw [HW.out, if_pos hfl]
       obtain ⟨b', c', e, hl⟩ := Lies.owned HO3.out
       simp only [Value.slice.injEq, true_and] at e
       obtain ⟨e1, e2⟩ := e
       rw [← e1, ← e2] at hl
       exact ⟨_, hl, Kind.owned HO3.out, HS3.out⟩
     have hlen : (f []).length = 0 := by rw [hfl]; rfl
     clear hfl
     generalize (f []).length = fn at *
     subst hlen
     go_wp2
     go_ret
     exact ⟨_, _, _, rfl, HFIN.out, HB3.out⟩
   · have hlen : 0 < (f []).length := List.length_pos_iff.2 hfl
     have hlm : (f []).length ≤ 9223372036854775807 := by
       rcases HOV.out.2 with ⟨_, h0⟩ | ⟨_, cap, _, _, _, _, h1, h2, _⟩
       · omega
       · unfold maxLen at h2; omega
     have HWW : Hid (withC k f L = L.take p ++ (k, f []) :: L.drop p) := by
       show _ = _
       rw [HW.out, if_neg hfl]
     have HIN := hid (insert_calls S (k, vb, (f []).length, vc) p n w.heap.size (.slice base1 n c1) w3 hpn (by omega) HB3.out.size HO3.out)
     have HSI : Hid (SlotIs w3 0 78 (k, vb, (f []).length, vc) (k, f [])) := own_slot (x := (k, f [])) rfl HK.out HOV.out
     have HLE : Hid (p ≤ L.length) := by show _ ≤ _; rw [← HN.out]; exact hpn
     clear hfl HW
     generalize hfn : (f []).length = fn at *
     clear hfn
     have hne : ((fn : Int) == 0) = false := by simp; omega
     go_wp2_with fail
     refine HIN.out.mono ?_
     rintro e w4 ⟨v4, rfl, ho4, hg4⟩
     obtain ⟨b4, c4, rfl, hl4⟩ := Lies.owned ho4
     have HFIN : Hid (ChK w4 b4 (n + 1) c4 (withC k f L)) := by
       show ChK _ _ _ _ _
       rw [HWW.out]
       have hbx := grew w3 (.cells #[.string k, .slice vb fn vc] 115)
       exact ⟨_, hl4, Kind.owned ho4, (slots_ins (HS3.out.below hbx) (HSI.out.below hbx) HLE.out).grown (owns_lower (HO3.out.alloc _) (Nat.zero_le _)) (by decide) hg4⟩
     have HBF : Hid (Below w.heap.size w w4) := (HB3.out.alloc HB3.out.size _).grown hg4 (le_box HB3.out.size) (fun a h => (HO3.out.lt a h).1)
     clear ho4 hg4 hl4 HIN
     go_wp2
     go_ret
     exact ⟨_, _, _, rfl, HFIN.out, HBF.out⟩
end Go.Proofs.YtlhaeeenkgkdaaaGreatDoor
