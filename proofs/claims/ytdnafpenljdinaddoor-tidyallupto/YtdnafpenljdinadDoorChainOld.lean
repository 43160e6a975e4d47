/-
  slices.Insert over chains, of one chain, into a row that the call owns: without room for it, and in whatever case.
  with of the program: chains in which a key's versions are turned by a closure; so Add and Set.
  Add and Set of the program: a version more, and one that is made.
  seenFrom and Clear of the program: chains without what is old.
-/
import Derived.Test.YtdnafpenljdinadDoorInsert
namespace Go.Proofs.YtdnafpenljdinadDoor
open Go.RowKit

end Go.Proofs.YtdnafpenljdinadDoor

namespace Go.Proofs.YtdnafpenljdinadDoor
open Go.RowKit

theorem getD_set {α : Type} [Inhabited α] (l : List α) (p i : Nat) (x : α) (hp : p < l.length) : (l.set p x).getD i default = if i = p then x else l.getD i default := by
  by_cases e : i = p
  · subst e; simp [List.getD, hp]
  · rw [if_neg e]; simp [List.getD, Ne.symm e]
theorem getD_ins {α : Type} [Inhabited α] (l : List α) (p i : Nat) (x : α) (hp : p ≤ l.length) : (l.take p ++ x :: l.drop p).getD i default = if i < p then l.getD i default else if i = p then x else l.getD (i - 1) default := by
  have hl : (l.take p).length = p := by rw [List.length_take]; omega
  by_cases h1 : i < p
  · rw [if_pos h1]
    simp [List.getD, List.getElem?_append_left (show i < (l.take p).length by omega), h1]
  · rw [if_neg h1]
    simp only [List.getD, List.getElem?_append_right (show (l.take p).length ≤ i by omega), hl]
    by_cases h2 : i = p
    · subst h2; simp
    · rw [if_neg h2]
      obtain ⟨m, hm⟩ : ∃ m, i - p = m + 1 := ⟨i - p - 1, by omega⟩
      rw [hm, List.getElem?_cons_succ, List.getElem?_drop, show p + m = i - 1 from by omega]
theorem flat_set {α : Type} {f : α → List Value} {k : Nat} (hk : ∀ x, (f x).length = k) (u : Value) : ∀ (l : List α) (p j : Nat) (x y : α), p < l.length → j < k → l[p]? = some x → f y = (f x).set j u → (flat f l).set (p * k + j) u = flat f (l.set p y)
  | [], p, _, _, _, h, _, _, _ => absurd h (Nat.not_lt_zero _)
  | z :: l, 0, j, x, y, _, hj, hx, hy => by
    simp only [List.getElem?_cons_zero, Option.some.injEq] at hx
    subst hx
    rw [List.set_cons_zero, flat_cons, flat_cons, hy, Nat.zero_mul, Nat.zero_add, List.set_append_left _ _ (by rw [hk]; exact hj)]
  | z :: l, p + 1, j, x, y, h, hj, hx, hy => by
    rw [List.set_cons_succ, flat_cons, flat_cons, ← flat_set hk u l p j x y (by simpa using h) hj (by simpa using hx) hy]
    rw [List.set_append_right _ _ (by rw [hk, Nat.add_mul]; omega), hk]
    congr 2
    rw [Nat.add_mul]; omega
theorem slot_set (s : Slot) (v : Value) (b : Option Addr) (n c : Nat) (hv : v = .slice b n c) : slotC (s.1, b, n, c) = (slotC s).set 1 v := by subst hv; rfl
/-- In a row of slots, one slot's versions are others. -/
theorem slots_set {w w3 : World} {B g n c p : Nat} {S : List Slot} {L : List Chn} {xs : List Value} (hs : OwnSlots w B S L) (hp : p < L.length) (hg : w.grownBy w3 (slotV (S.getD p default)).ownBlock) (hrow : w3.ownsRow B 59 2 (.slice (some ⟨g, 0, none⟩) n c) n xs)
    (s' : Slot) (x' : Chn) (hk : s'.1 = x'.1) (hz : x'.1.size ≤ maxLen) (hnew : OwnsV w3 B (slotV s') x'.2) (o : Nat) (u : Value) (B' : Nat) : SlotsAre (w3.setCell ⟨g, o, none⟩ u) B' 68 (S.set p s') (L.set p x') := by
  have hgr := (World.ownsRow.stored hrow o u).2
  have keep : ∀ v l, OwnsV w3 B v l → OwnsV (w3.setCell ⟨g, o, none⟩ u) B v l := fun v l h => h.kept hgr (rows_apart h hrow (by decide))
  have isl : ∀ s x, s.1 = x.1 → x.1.size ≤ maxLen → OwnsV (w3.setCell ⟨g, o, none⟩ u) B (slotV s) x.2 → SlotIs (w3.setCell ⟨g, o, none⟩ u) B' 68 s x := fun s x h1 h2 h3 => by
    obtain ⟨b, c', e, hl⟩ := Lies.owned h3
    simp only [Value.slice.injEq] at e
    obtain ⟨e1, e2, e3⟩ := e
    rw [slotV, e1, e2, e3] at h3
    refine ⟨h1, by rw [e1, e2, e3]; exact hl, by rw [e1, e2]; exact Lies.kind h3 B', h2⟩
  have hpS : p < S.length := by rw [hs.len]; exact hp
  refine ⟨by simp [hs.len], fun i hi => ?_⟩
  have hi' : i < L.length := by simpa using hi
  rw [getD_set S p i s' hpS, getD_set L p i x' hp]
  by_cases e : i = p
  · rw [if_pos e, if_pos e]
    exact isl s' x' hk hz (keep _ _ hnew)
  · rw [if_neg e, if_neg e]
    refine isl _ _ (hs.key i hi').1 (hs.key i hi').2 (keep _ _ ((hs.own i hi').kept hg ?_))
    cases ho : (slotV (S.getD i default)).ownBlock with
    | none => exact .inl rfl
    | some a =>
      refine .inr fun e2 => ?_
      rcases Nat.lt_or_gt_of_ne e with h | h
      · exact hs.apart i p h hp a ho e2.symm
      · exact hs.apart p i h hi' a e2.symm ho
theorem slots_ins {w : World} {B t p : Nat} {S : List Slot} {L : List Chn} {s : Slot} {x : Chn} (h : SlotsAre w B t S L) (hs : SlotIs w B t s x) (hp : p ≤ L.length) : SlotsAre w B t (S.take p ++ s :: S.drop p) (L.take p ++ x :: L.drop p) := by
  have hl := h.1
  refine ⟨by simp; omega, fun i hi => ?_⟩
  have hi' : i < L.length + 1 := by simp at hi; omega
  rw [getD_ins S p i s (by omega), getD_ins L p i x hp]
  by_cases h1 : i < p
  · rw [if_pos h1, if_pos h1]; exact h.2 i (by omega)
  · rw [if_neg h1, if_neg h1]
    by_cases h2 : i = p
    · rw [if_pos h2, if_pos h2]; exact hs
    · rw [if_neg h2, if_neg h2]; exact h.2 (i - 1) (by omega)
theorem own_slot {w : World} {B B' : Nat} {s : Slot} {x : Chn} (h1 : s.1 = x.1) (h2 : x.1.size ≤ maxLen) (h3 : OwnsV w B (slotV s) x.2) : SlotIs w B' 68 s x := by
  obtain ⟨b, c', e, hl⟩ := Lies.owned h3
  simp only [Value.slice.injEq] at e
  obtain ⟨e1, e2, e3⟩ := e
  rw [slotV, e1, e2, e3] at h3
  exact ⟨h1, by rw [e1, e2, e3]; exact hl, by rw [e1, e2]; exact Lies.kind h3 B', h2⟩

/-- What a closure makes of versions that are its own. -/
def Turns (w : World) (F : Nat) (caps : Array Value) (f : List Ver → List Ver) : Prop :=
  ∀ (W : World) (v : Value) (l : List Ver), Below w.heap.size w W → OwnsV W w.heap.size v l → Rise l → l.length ≤ 1954687338214 →
    Calls Tryd.prog F (#[v] ++ caps) W fun e w' => ∃ v', e = .returned v' ∧ OwnsV w' w.heap.size v' (f l) ∧ W.grownBy w' v.ownBlock

/-- How chains are told that lie in memory of their own. -/
def ChainsToldK (w w' : World) (L : List Chn) (e : Ending) : Prop := ∃ (base : Option Addr) (n c : Nat), e = .returned (.slice base n c) ∧ ChK w' base n c L ∧ Below w.heap.size w w'
/-- How chains are told. -/
def ChainsTold (w w' : World) (L : List Chn) (e : Ending) : Prop := ∃ (base : Option Addr) (n c : Nat), e = .returned (.slice base n c) ∧ ChainsIn w' base n c L ∧ Below w.heap.size w w'

theorem ChainsToldK.told {w w' : World} {L : List Chn} {e : Ending} (h : ChainsToldK w w' L e) : ChainsTold w w' L e := by
  obtain ⟨b, n, c, h1, h2, h3⟩ := h
  exact ⟨b, n, c, h1, h2.chains, h3⟩

end Go.Proofs.YtdnafpenljdinadDoor

namespace Go.Proofs.YtdnafpenljdinadDoor
open Go.RowKit

theorem grown_any {w w' : World} (h : w.grownBy w' none) (r : Option Nat) : w.grownBy w' r := ⟨h.os, h.tape, h.output, h.size, fun k hk _ => h.block k hk (by simp)⟩
theorem grown_trans {w w1 w2 : World} {r : Option Nat} (h1 : w.grownBy w1 r) (h2 : w1.grownBy w2 r) : w.grownBy w2 r :=
  ⟨h2.os.trans h1.os, h2.tape.trans h1.tape, h2.output.trans h1.output, Nat.le_trans h1.size h2.size, fun k hk hne => (h2.block k (Nat.lt_of_lt_of_le hk h1.size) hne).trans (h1.block k hk hne)⟩
theorem grown_drewN {w w1 : World} {r : Option Nat} (h : w.grownBy w1 r) (q : Nat) : w.grownBy (w1.drewN q) r := ⟨h.os, h.tape, h.output, h.size, h.block⟩
/-- A version is written at its place in a row of versions. -/
def verAt (w : World) (g o : Nat) (y : Int) (m h : Bool) (x : Int) : World :=
  (((w.setCell ⟨g, o, none⟩ (.int .i64 y)).setCell ⟨g, o + 1, none⟩ (.bool m)).setCell ⟨g, o + 2, none⟩ (.bool h)).setCell ⟨g, o + 3, none⟩ (.int .i64 x)
theorem verAt_owns {w : World} {B g n c p : Nat} {l : List Ver} (ho : w.ownsRow B 68 4 (.slice (some ⟨g, 0, none⟩) n c) n (flat verC l)) (hp : p < l.length) (y : Int) (m h : Bool) (x : Int) :
    (verAt w g (p * 4) y m h x).ownsRow B 68 4 (.slice (some ⟨g, 0, none⟩) n c) n (flat verC (l.set p (y, m, h, x))) ∧ w.grownBy (verAt w g (p * 4) y m h x) (some g) := by
  obtain ⟨u, hu⟩ : ∃ u, l[p]? = some u := ⟨_, List.getElem?_eq_getElem hp⟩
  obtain ⟨a1, b1⟩ := World.ownsRow.stored ho (p * 4) (.int .i64 y)
  have e1 : (flat verC l).set (p * 4) (.int .i64 y) = flat verC (l.set p (y, u.made, u.has_, u.n)) := flat_set verC_length _ l p 0 u _ hp (by omega) hu rfl
  rw [e1] at a1
  obtain ⟨a2, b2⟩ := World.ownsRow.stored a1 (p * 4 + 1) (.bool m)
  have e2 : (flat verC (l.set p (y, u.made, u.has_, u.n))).set (p * 4 + 1) (.bool m) = flat verC (l.set p (y, m, u.has_, u.n)) := by
    rw [flat_set verC_length _ (l.set p (y, u.made, u.has_, u.n)) p 1 (y, u.made, u.has_, u.n) (y, m, u.has_, u.n) (by simpa using hp) (by omega) (by simp [hp]) rfl, List.set_set]
  rw [e2] at a2
  obtain ⟨a3, b3⟩ := World.ownsRow.stored a2 (p * 4 + 2) (.bool h)
  have e3 : (flat verC (l.set p (y, m, u.has_, u.n))).set (p * 4 + 2) (.bool h) = flat verC (l.set p (y, m, h, u.n)) := by
    rw [flat_set verC_length _ (l.set p (y, m, u.has_, u.n)) p 2 (y, m, u.has_, u.n) (y, m, h, u.n) (by simpa using hp) (by omega) (by simp [hp]) rfl, List.set_set]
  rw [e3] at a3
  obtain ⟨a4, b4⟩ := World.ownsRow.stored a3 (p * 4 + 3) (.int .i64 x)
  have e4 : (flat verC (l.set p (y, m, h, u.n))).set (p * 4 + 3) (.int .i64 x) = flat verC (l.set p (y, m, h, x)) := by
    rw [flat_set verC_length _ (l.set p (y, m, h, u.n)) p 3 (y, m, h, u.n) (y, m, h, x) (by simpa using hp) (by omega) (by simp [hp]) rfl, List.set_set]
  rw [e4] at a4
  exact ⟨a4, grown_trans b1 (grown_trans b2 (grown_trans b3 b4))⟩

end Go.Proofs.YtdnafpenljdinadDoor

namespace Go.Proofs.YtdnafpenljdinadDoor
open Go.RowKit

theorem Vers.drop {w : World} {b o n c m : Nat} {l : List Ver} (h : Vers w (some ⟨b, o, none⟩) n c l) (hm : m ≤ n) : Vers w (some ⟨b, o + m * 4, none⟩) (n - m) (c - m) (l.drop m) := by
  have hn := Vers.count h
  have hlc := h.hdr.le
  have hmx := h.hdr.max
  refine ⟨by rw [flat_length verC_length, List.length_drop, hn], ⟨by omega, by omega, fun h => by cases h⟩, ?_⟩
  rcases h.run with h0 | ⟨b', o', e, hr⟩
  · exact .inl (by omega)
  · cases e
    refine .inr ⟨b, o + m * 4, rfl, fun j u hu => ?_⟩
    rw [flat_drop verC_length, List.getElem?_drop] at hu
    rw [Nat.add_assoc]
    exact hr _ u hu
theorem Vers.none_left {w : World} {base : Option Addr} {c : Nat} {l : List Ver} (hl : l = []) (hh : Hdr base 0 c) : Vers w base 0 c l := by
  subst hl
  exact ⟨rfl, hh, .inl rfl⟩

set_option maxHeartbeats 1000000 in
set_option maxRecDepth 100000 in
theorem seenFrom_calls (l : List Ver) (base : Option Addr) (n c : Nat) (by_ : Int) (w : World) (hn : n < 4611686018427387904) (hr : Rise l) (ha : Vers w base n c l) :
    Calls Tryd.prog 41 #[.slice base n c, .int .i64 by_] w fun e w' => ∃ b' n' c', e = .returned (.slice b' n' c') ∧ Vers w' b' n' c' (clearV by_ l) ∧ Below w.heap.size w w' := by
  have HBC := hid (below_calls l base n c by_ w hn hr ha)
  have HE := hid (clearV_bel (by_ := by_) hr)
  have hle := belV_le by_ l
  rw [← Vers.count ha] at hle
  have HV := hid ha
  have HN := hid (Vers.count ha)
  have hlc := ha.hdr.le
  have hmx := ha.hdr.max
  unfold maxLen at hmx
  clear ha hr
  generalize belV by_ l = m at *
  cases m with
  | zero =>
    have HE0 : Hid (clearV by_ l = l) := by show _ = _; rw [HE.out, if_pos rfl]
    go_enter Tryd.func41, Tryd.ntmps41
    go_wp2_with fail
    refine HBC.out.mono ?_
    rintro e w1 ⟨rfl, hb⟩
    go_wp2
    go_ret
    exact ⟨_, _, _, rfl, by rw [HE0.out]; exact HV.out.below (by decide) hb, hb⟩
  | succ m =>
    go_enter Tryd.func41, Tryd.ntmps41
    go_wp2_with fail
    refine HBC.out.mono ?_
    rintro e w1 ⟨rfl, hb⟩
    have HB := hid hb
    have HV1 := hid (HV.out.below (by decide) hb)
    clear hb HBC
    rcases HV1.out.run with h | ⟨b, o, rfl, hrun⟩
    · omega
    obtain ⟨c0, c1, c2, c3⟩ := Vers.cells hrun (i := m) (by rw [← HN.out]; omega)
    have hbw : b < w1.heap.size := by simpa using World.block_lt_of_cell? _ _ c0
    have HE1 : Hid (clearV by_ l = if ((l.getD m default).made && !(l.getD m default).has_) = true then l.drop (m + 1) else l.drop m) := by show _ = _; rw [HE.out]; rfl
    clear hrun
    rcases hx : l.getD m default with ⟨y, mm, hh, x⟩
    rw [hx] at c0 c1 c2 c3 HE1
    simp only [Ver.by_, Ver.made, Ver.has_, Ver.n] at c0 c1 c2 c3
    clear hx
    have HG := hid (grew w1 (.cells #[.int .i64 y, .bool mm, .bool hh, .int .i64 x] 68))
    have HV2 := hid (HV1.out.below (by decide) HG.out)
    have HB2 := hid (below_deep HB.out HG.out)
    have hwr : IntKind.i64.wrap (m : Int) = (m : Int) := by rw [IntKind.wrap_i64]; omega
    have hi : (m : Int) < (n : Int) := by omega
    have hb1 : (m : Int) + 1 ≤ (n : Int) := by omega
    have hb2 : (0 : Int) ≤ (m : Int) + 1 := by omega
    have htn : ((m : Int) + 1).toNat = m + 1 := by omega
    have HD1 := hid (Vers.drop HV2.out (m := m + 1) (by omega))
    have HD0 := hid (Vers.drop HV2.out (m := m) (by omega))
    have HNIL : Hid (c = m + 1 → l.drop (m + 1) = []) := fun h => List.drop_eq_nil_of_le (by rw [← HN.out]; omega)
    by_cases hq : mm = true ∧ hh = false
    · obtain ⟨rfl, rfl⟩ := hq
      have HE2 : Hid (clearV by_ l = l.drop (m + 1)) := by show _ = _; rw [HE1.out]; rfl
      go_wp2
      all_goals
        go_ret
        refine ⟨_, _, _, rfl, ?_, HB2.out⟩
        rw [HE2.out]
        first
          | exact HD1.out
          | (rw [show n - (m + 1) = 0 from by omega]; exact Vers.none_left (HNIL.out (by omega)) ⟨by omega, by unfold maxLen; omega, fun h => by cases h⟩)
    · have HE2 : Hid (clearV by_ l = l.drop m) := by
        show _ = _
        rw [HE1.out, if_neg (by
          simp only [Ver.made, Ver.has_, Bool.and_eq_true, Bool.not_eq_true']
          exact hq)]
      have hb3 : ¬ (c = m) := by omega
      cases mm with
      | false =>
        go_wp2
        all_goals
          go_ret
          exact ⟨_, _, _, rfl, by rw [HE2.out]; exact HD0.out, HB2.out⟩
      | true =>
        cases hh with
        | false => exact absurd ⟨rfl, rfl⟩ hq
        | true =>
          go_wp2
          all_goals
            go_ret
            exact ⟨_, _, _, rfl, by rw [HE2.out]; exact HD0.out, HB2.out⟩

theorem clearV_len (by_ : Int) (l : List Ver) : (clearV by_ l).length ≤ l.length := (clearV_sub by_ l).length_le

set_option maxHeartbeats 2000000 in
set_option maxRecDepth 100000 in
theorem clearC_calls (L : List Chn) (base : Option Addr) (n c : Nat) (by_ : Int) (w : World) (hf : FitC L) (ha : ChainsIn w base n c L) :
    Calls Tryd.prog 24 #[.slice base n c, .int .i64 by_] w fun e w' => ChainsTold w w' (clearC by_ L) e := by
  have hcn : n ≤ 387420489 := by rw [ha.len]; exact hf.count
  have HA := hid ha
  have HLN := hid ha.len
  have HF := hid hf
  clear ha hf
  go_enter Tryd.func24, Tryd.ntmps24
  go_wp2
  go_loopw [5, 11] (fun v i wr => ∃ (j r : Nat) (S : List Slot), j ≤ n ∧ r ≤ j ∧ i = .int .i64 j ∧ Hid (wr.ownsRow w.heap.size 59 2 v r (flat slotC S)) ∧ Hid (OwnSlots wr w.heap.size S (clearC by_ (L.take j))) ∧ Hid (Below w.heap.size w wr)) (fun _ i _ => n - (intOf i).toNat)
  case atStart => exact ⟨0, 0, [], Nat.zero_le _, Nat.le_refl _, rfl, World.ownsRow_nil _ _ _ _, OwnSlots.nil _ _, Below.refl _ _⟩
  case round =>
    obtain ⟨j, r, S, hj, hrj, rfl, HO, HS, HBR⟩ := hrel
    by_cases hlt : j < n
    · have hjl : j < L.length := by rw [← HLN.out]; exact hlt
      have hi : (j : Int) < (n : Int) := by omega
      rcases (HA.out.below HBR.out).run with h | ⟨b, o, rfl, hrun⟩
      · omega
      obtain ⟨vb, vn, vc, c0, c1, hvv, hkz⟩ := hrun j hlt
      have hbw : b < wr.heap.size := by simpa using World.block_lt_of_cell? _ _ c0
      have hfew := HF.out.few _ (memC hjl)
      have HRI := hid (HF.out.rise _ (memC hjl))
      have HTK := hid (take_snoc_getD hjl)
      rcases hx : L.getD j default with ⟨key, vs⟩
      rw [hx] at c0 hvv hkz HTK hfew HRI
      simp only at c0 hvv hkz hfew HRI
      clear hx hrun
      have hvn := Vers.count hvv
      have HGW := hid (grew wr (.cells #[.string key, .slice vb vn vc] 59))
      have HSF := hid (seenFrom_calls vs vb vn vc by_ _ (by omega) HRI.out (hvv.below (by decide) HGW.out))
      have HCS : Hid (clearC by_ (L.take (j + 1)) = clearC by_ (L.take j) ++ (if clearV by_ vs = [] then [] else [(key, clearV by_ vs)])) := by
        show _ = _
        rw [HTK.out, clearC_snoc]
      have HKZ := hid hkz
      have HLE := hid (clearV_len by_ vs)
      have HNE := hid (own_old HO.out)
      clear hvv hkz hvn
      go_wp2_with fail
      refine HSF.out.mono ?_
      rintro e w1 ⟨b1, n1, c1', rfl, hv1, hb1⟩
      have hn1 : n1 ≤ 1954687338214 := by
        have h1 := Vers.count hv1
        have h2 := HLE.out
        omega
      have HB1 := hid (below_deep HGW.out hb1)
      by_cases h0 : n1 = 0
      · subst h0
        have HNX : Hid (clearC by_ (L.take (j + 1)) = clearC by_ (L.take j)) := by
          show _ = _
          rw [HCS.out, if_pos (List.eq_nil_of_length_eq_zero (Vers.count hv1).symm), List.append_nil]
        clear hv1 hb1
        go_wp2
        go_roundw
        case rel => exact ⟨j + 1, r, S, by omega, by omega, by go_num, owns_keep HO.out HB1.out, by rw [HNX.out]; exact HS.out.below HB1.out, below_deep HBR.out HB1.out⟩
        case measure => simp [intOf]; omega
      · have HNX : Hid (clearC by_ (L.take (j + 1)) = clearC by_ (L.take j) ++ [(key, clearV by_ vs)]) := by
          show _ = _
          rw [HCS.out, if_neg (fun e => h0 (by rw [Vers.count hv1, e]; rfl))]
        have HS0 : Hid ((fun w' => w'.cell? ⟨wr.heap.size, 0, none⟩ = some (.string key) ∧ w'.cell? ⟨wr.heap.size, 1, none⟩ = some (.slice vb vn vc)) w1.drew) :=
          ⟨kept_cell hb1.drew (box_cell wr #[.string key, .slice vb vn vc] _ 0 _ rfl), kept_cell hb1.drew (box_cell wr #[.string key, .slice vb vn vc] _ 1 _ rfl)⟩
        have HOV := hid (ownVers_calls _ b1 n1 c1' w1.drew (by omega) (hv1.below (by decide) (Below.refl _ _).drew))
        have hpos : (0 : Int) < (n1 : Int) := by omega
        clear hv1 hb1 HSF
        go_wp2
        go_region_held3 (fun w' => w'.cell? ⟨wr.heap.size, 0, none⟩ = some (.string key) ∧ w'.cell? ⟨wr.heap.size, 1, none⟩ = some (.slice vb vn vc))
          (first
            | exact HS0.out
            | exact cells2_keep HS0.out (by assumption)
            | exact cells2_past _ (by assumption)
            | exact cells2_grown HNE.out (by assumption) (by assumption))
          (first
            | (go_at_call 42; refine HOV.out.mono ?_; rintro e w2 ⟨b2, c2', rfl, ho2, hb2⟩)
            | (refine step_grow _ rfl _ _ 29 59 2 40 _ Tryd.underlying29 chnInfo rfl (by decide) (by decide) rfl w.heap.size _ r (flat slotC S) rfl ?_ _ 1 _ [.string key, .slice b2 n1 c2'] rfl ?_ ?_ ?_ ?_ ?_; (exact (owns_keep (owns_keep HO.out HB1.out.drew) hb2).alloc _); (exact lies_one w2 #[.string key, .slice b2 n1 c2'] _ 2 rfl); (exact slotC_one (key, b2, n1, c2')); omega; (exact Nat.le_trans HBR.out.size (Nat.le_trans HB1.out.size (Nat.le_trans hb2.size (by simp)))); intro v3 w3 hown3 hg3))
        have HX := hid (own_step HO.out HS.out HBR.out HB1.out.drew hb2 ho2 HKZ.out hown3 hg3)
        clear hown3 hg3 ho2 hb2 HOV HS0
        go_wp2
        go_roundw
        case rel => exact ⟨j + 1, r + 1, S ++ [(key, b2, n1, c2')], by omega, by omega, by go_num, HX.out.1, by rw [HNX.out]; exact HX.out.2.1, HX.out.2.2⟩
        case measure => simp [intOf]; omega
    · obtain rfl : j = n := by omega
      have hs := HS.out
      rw [List.take_of_length_le (by rw [← HLN.out]; exact Nat.le_refl _)] at hs
      obtain ⟨b2, c2, rfl, hch⟩ := chains_owned HO.out hs
      have HC := hid hch
      clear hs hch
      go_wp2
      go_ret
      exact ⟨_, _, _, rfl, HC.out, HBR.out⟩
end Go.Proofs.YtdnafpenljdinadDoor
