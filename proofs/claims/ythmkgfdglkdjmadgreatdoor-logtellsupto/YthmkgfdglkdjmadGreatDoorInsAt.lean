/-
  The library's functions that a deed's text is made and read by, and what the program and the document make of a number and of a register.
  An instruction in a block of its own: its five places, kept, and turned one by one.
-/
import Derived.Test.YthmkgfdglkdjmadGreatDoorShelf
import Derived.Test.YthmkgfdglkdjmadGreatDoorRefMath
import Derived.Test.YthmkgfdglkdjmadGreatDoorSplLib
import Derived.Test.YthmkgfdglkdjmadGreatDoorNamedKeep
import Derived.Lib.AppendIntMem
import Derived.Lib.AtoiErrMem
namespace Go.Proofs.YthmkgfdglkdjmadGreatDoor
open Go.RowKit Go.Shelf

/-- What a call of Split leaves. -/
structure Pieces (w w' : World) (l : List ByteArray) : Prop where
  is : w' = w.alloc (.cells (strs l).toArray 9)
theorem Pieces.below {w w' : World} {l : List ByteArray} (h : Pieces w w' l) : Below w.heap.size w w' := by rw [h.is]; exact grew _ _
theorem Pieces.texts {w w' : World} {l : List ByteArray} (h : Pieces w w' l) (hl : l.length ≤ maxLen) : Texts w' (some ⟨w.heap.size, 0, none⟩) l.length l.length l := by
  have := lies_new w (strs l).toArray 9 1 l.length (by simp [strs]) hl
  rw [h.is]
  simpa using this

theorem split_calls {sep : T} {spl : T → T → List T} (hc : Cuts sep spl) (s : ByteArray) (w : World) (hG : Ground w) (hs : s.size ≤ 100000) :
    Calls Tryz.prog 106 #[.string s, .string (ofT sep)] w fun e w' => e = .returned (.slice (some ⟨w.heap.size, 0, none⟩) (spl [] (keyT s)).length (spl [] (keyT s)).length) ∧ Pieces w w' ((spl [] (keyT s)).map ofT) := by
  obtain ⟨m, hm⟩ := hG.most
  have h1 : 1 ≤ (ofT sep).size := by
    have e : (ofT sep).size = sep.length := by simp [ofT, ByteArray.size]
    rw [e]; exact hc.pos
  refine (Any.strings_Split lays146 (by kernel_rfl) s (ofT sep) m w (by omega) hm h1).mono ?_
  rintro e w' ⟨rfl, hw⟩
  have hl := Lib.splitB_all (ofT sep) h1 0 _ s rfl
  rw [splitB_cuts hc, List.length_map] at hl
  rw [splitB_cuts hc] at hw
  exact ⟨by rw [hl], ⟨hw⟩⟩
theorem split1_calls (s : ByteArray) (w : World) (hG : Ground w) (hs : s.size ≤ 100000) :
    Calls Tryz.prog 106 #[.string s, .string ⟨#[32]⟩] w fun e w' => e = .returned (.slice (some ⟨w.heap.size, 0, none⟩) (spl1 [] (keyT s)).length (spl1 [] (keyT s)).length) ∧ Pieces w w' ((spl1 [] (keyT s)).map ofT) := split_calls cuts1 s w hG hs
theorem split2_calls (s : ByteArray) (w : World) (hG : Ground w) (hs : s.size ≤ 100000) :
    Calls Tryz.prog 106 #[.string s, .string ⟨#[59, 32]⟩] w fun e w' => e = .returned (.slice (some ⟨w.heap.size, 0, none⟩) (spl2 [] (keyT s)).length (spl2 [] (keyT s)).length) ∧ Pieces w w' ((spl2 [] (keyT s)).map ofT) := split_calls cuts2 s w hG hs

theorem itoa_calls (n : Int) (w : World) (hG : GroundN w) (h0 : -9223372036854775808 ≤ n) (h1 : n ≤ 9223372036854775807) :
    Calls Tryz.prog 80 #[.int .i64 n] w fun e w' => e = .returned (.string (ofT (Lib.itoa n))) ∧ Below w.heap.size w w' := by
  refine (Any.strconv_Itoa laysM171 n h0 h1 w hG.tab).mono ?_
  rintro e w' ⟨rfl, k, os, rfl⟩
  exact ⟨rfl, Lib.below_grow _ _ (Nat.le_refl _) _ _⟩

/-- How Atoi ends. -/
theorem atoi_calls (s : ByteArray) (w : World) (hG : GroundN w) (hs : s.size ≤ 100000) :
    Calls Tryz.prog 114 #[.string s] w fun e w' => ((∃ v, Lib.atoiAll (keyT s) = .ok v ∧ e = .returned (.tuple #[.int .i64 v, .nilIface])) ∨ (∃ v t p, (∀ u, Lib.atoiAll (keyT s) ≠ .ok u) ∧ e = .returned (.tuple #[.int .i64 v, .iface t (.pointer (some p))]))) ∧ Below w.heap.size w w' := by
  cases h : Lib.atoiAll (keyT s) with
  | ok v =>
    refine (Any.strconv_Atoi_ok laysC172 s (by omega) v h w).mono ?_
    rintro e w' ⟨rfl, hw⟩
    refine ⟨.inl ⟨v, rfl, rfl⟩, ?_⟩
    rcases hw with rfl | ⟨t, rfl⟩
    · exact Below.refl _ _
    · exact Lib.bytesWorld_below _ _ _
  | «syntax» =>
    obtain ⟨tp, p, hv⟩ := hG.syn
    refine (Any.strconv_Atoi_syntax_var laysC172 s (by omega) h tp p w hv).mono ?_
    rintro e w' ⟨N, rfl, _, _, hb⟩
    exact ⟨.inr ⟨_, _, _, (fun u h => by cases h), rfl⟩, hb⟩
  | range =>
    obtain ⟨tp, p, hv⟩ := hG.rng
    refine (Any.strconv_Atoi_range_var laysC172 s (by omega) h tp p w hv).mono ?_
    rintro e w' ⟨N, rfl, _, _, hb⟩
    exact ⟨.inr ⟨_, _, _, (fun u h => by cases h), rfl⟩, hb⟩

/-- A number, as it is told: whether it is one, and then which. -/
def Told (o : Option Int) (e : Ending) : Prop := ∃ v : Int, e = .returned (.tuple #[.int .i64 v, .bool o.isSome]) ∧ ∀ u, o = some u → v = u
theorem keyT_eq {a b : ByteArray} (h : keyT a = keyT b) : a = b := by
  have := congrArg ofT h
  rwa [ofT_keyT, ofT_keyT] at this

/-- A number and whether its own text is the text, put together. -/
theorem told_ok {s : ByteArray} {v : Int} (h : Lib.atoiAll (keyT s) = .ok v) : (Lib.itoa v = keyT s → numOf (keyT s) = some v) ∧ (Lib.itoa v ≠ keyT s → numOf (keyT s) = none) := by
  unfold numOf; rw [h]
  exact ⟨fun e => if_pos e, fun e => if_neg e⟩
theorem told_no {s : ByteArray} (h : ∀ u, Lib.atoiAll (keyT s) ≠ .ok u) : numOf (keyT s) = none := by
  unfold numOf
  split
  · rename_i v e; exact absurd e (h v)
  · rfl
theorem itoa_eq {s : ByteArray} {v : Int} (h : Lib.itoa v = keyT s) : ofT (Lib.itoa v) = s := by rw [h, ofT_keyT]
theorem itoa_ne {s : ByteArray} {v : Int} (h : Lib.itoa v ≠ keyT s) : ofT (Lib.itoa v) ≠ s := fun e => h (by rw [← e, keyT_ofT])

set_option maxHeartbeats 1000000 in
theorem number_calls (s : ByteArray) (w : World) (hG : Ground w) (hs : s.size ≤ 100000) :
    Calls Tryz.prog 181 #[.string s] w fun e w' => Told (numOf (keyT s)) e ∧ Below w.heap.size w w' := by
  have HA := hid (atoi_calls s w hG.num hs)
  have HG := hid hG
  clear hG
  generalize hq : numOf (keyT s) = q
  have HQ := hid hq
  clear hq
  go_enter Tryz.func181, Tryz.ntmps181
  go_wp2_with fail
  refine HA.out.mono ?_
  rintro e w1 ⟨⟨v, hv, rfl⟩ | ⟨v, t, p, hv, rfl⟩, hb⟩
  · have hbd := Lib.atoiAll_bounds hv
    have HI := hid (itoa_calls v w1 (HG.out.below hb).num hbd.1 hbd.2)
    have HV := hid (told_ok hv)
    have HB := hid hb
    clear hv hb hbd
    by_cases hE : Lib.itoa v = keyT s
    · have hst := streq_true (itoa_eq hE)
      have HN := hid (HQ.out.symm.trans (HV.out.1 hE))
      clear hE
      generalize ofT (Lib.itoa v) = z at *
      go_wp2_with fail
      refine HI.out.mono ?_
      rintro e w2 ⟨rfl, hb2⟩
      have HB2 := hid hb2
      clear hb2
      go_wp2
      go_ret2
      refine ⟨⟨v, by rw [HN.out]; rfl, fun u hu => ?_⟩, below_deep HB.out HB2.out⟩
      rw [HN.out] at hu; exact Option.some.inj hu
    · have hst := streq_false (itoa_ne hE)
      have HN := hid (HQ.out.symm.trans (HV.out.2 hE))
      clear hE
      generalize ofT (Lib.itoa v) = z at *
      go_wp2_with fail
      refine HI.out.mono ?_
      rintro e w2 ⟨rfl, hb2⟩
      have HB2 := hid hb2
      clear hb2
      go_wp2
      go_ret2
      refine ⟨⟨v, by rw [HN.out]; rfl, fun u hu => ?_⟩, below_deep HB.out HB2.out⟩
      rw [HN.out] at hu; cases hu
  · have HN := hid (HQ.out.symm.trans (told_no hv))
    have HB := hid hb
    clear hv hb
    go_wp2
    go_ret2
    refine ⟨⟨v, by rw [HN.out]; rfl, fun u hu => ?_⟩, HB.out⟩
    rw [HN.out] at hu; cases hu

theorem keyT_len (s : ByteArray) : (keyT s).length = s.size := Array.length_toList
theorem ofT_size (t : T) : (ofT t).size = t.length := by simp [ofT, ByteArray.size]
theorem cut_reg (s : ByteArray) : (Lib.hasPrefix (keyT s) [114] = false ∧ regOf (keyT s) = none) ∨ (Lib.hasPrefix (keyT s) [114] = true ∧ regOf (keyT s) = numOf ((keyT s).drop 1)) := by
  cases h : keyT s with
  | nil => left; exact ⟨rfl, rfl⟩
  | cons c r =>
    by_cases hc : c = 114
    · right; subst hc
      exact ⟨by simp [Lib.hasPrefix], by simp [regOf]⟩
    · left
      exact ⟨by have : (114 == c) = false := by simpa using fun e : (114 : UInt8) = c => hc e.symm
                show ((114 == c) && ([] : T).isPrefixOf r) = false
                rw [this]; rfl, by simp [regOf, hc]⟩
set_option maxHeartbeats 1000000 in
theorem register_calls (s : ByteArray) (w : World) (hG : Ground w) (hs : s.size ≤ 100000) :
    Calls Tryz.prog 180 #[.string s] w fun e w' => Told (regOf (keyT s)) e ∧ Below w.heap.size w w' := by
  have HC : Hid (Calls Tryz.prog 190 #[.string s, .string ⟨#[114]⟩] w fun e w' => e = .returned (.tuple #[.string (ofT (Lib.trimPrefix (keyT s) [114])), .bool (Lib.hasPrefix (keyT s) [114])]) ∧ w' = w) := Any.strings_CutPrefix lays103 s ⟨#[114]⟩ w
  rcases cut_reg s with ⟨h1, h2⟩ | ⟨h1, h2⟩
  · rw [h1] at HC
    rw [h2]
    clear h1 h2
    generalize ofT (Lib.trimPrefix (keyT s) [114]) = z at *
    go_enter Tryz.func180, Tryz.ntmps180
    go_wp2_with fail
    refine HC.out.mono ?_
    rintro e w1 ⟨rfl, rfl⟩
    go_wp2
    go_ret2
    exact ⟨⟨0, rfl, fun u hu => by cases hu⟩, Below.refl _ _⟩
  · have ht : Lib.trimPrefix (keyT s) [114] = (keyT s).drop 1 := by unfold Lib.trimPrefix; rw [if_pos h1]; rfl
    rw [h1, ht] at HC
    have hz : (ofT ((keyT s).drop 1)).size ≤ 100000 := by
      have : (ofT ((keyT s).drop 1)).size = (keyT s).length - 1 := by simp [ofT, ByteArray.size]
      have h3 := keyT_len s
      omega
    have HN := hid (number_calls (ofT ((keyT s).drop 1)) w hG hz)
    rw [keyT_ofT, ← h2] at HN
    clear h1 h2 ht hz hG
    generalize ofT ((keyT s).drop 1) = z at *
    generalize regOf (keyT s) = q at *
    go_enter Tryz.func180, Tryz.ntmps180
    go_wp2_with fail
    refine HC.out.mono ?_
    rintro e w1 ⟨rfl, rfl⟩
    go_wp2_with fail
    refine HN.out.mono ?_
    rintro e w2 ⟨⟨v, rfl, hv⟩, hb⟩
    have HV := hid hv
    have HB := hid hb
    clear hv hb
    go_wp2
    go_ret2
    exact ⟨⟨v, rfl, HV.out⟩, HB.out⟩
end Go.Proofs.YthmkgfdglkdjmadGreatDoor

namespace Go.Proofs.YthmkgfdglkdjmadGreatDoor
open Go.RowKit

structure InsAt (w : World) (b : Nat) (i : Ins) : Prop where
  c0 : w.cell? ⟨b, 0, none⟩ = some (.int .i64 i.kind)
  c1 : w.cell? ⟨b, 1, none⟩ = some (.int .i64 i.a)
  c2 : w.cell? ⟨b, 2, none⟩ = some (.int .i64 i.b)
  c3 : w.cell? ⟨b, 3, none⟩ = some (.int .i64 i.n)
  c4 : w.cell? ⟨b, 4, none⟩ = some (.string i.key)
  free : ∀ j, w.frozen? ⟨b, j, none⟩ = false
theorem InsAt.lt {w : World} {b : Nat} {i : Ins} (h : InsAt w b i) : b < w.heap.size := World.block_lt_of_cell? _ _ h.c0
theorem InsAt.below {w w' : World} {b : Nat} {i : Ins} (h : InsAt w b i) (hb : Below w.heap.size w w') : InsAt w' b i :=
  ⟨kept_cell hb h.c0, kept_cell hb h.c1, kept_cell hb h.c2, kept_cell hb h.c3, kept_cell hb h.c4, fun j => kept_free hb ⟨h.lt, h.free j⟩⟩
theorem free_set {w : World} {a p : Addr} {v : Value} : (w.setCell p v).frozen? a = w.frozen? a := World.frozen?_setCell _ _ _ _
theorem InsAt.far {w : World} {b b' k : Nat} {i : Ins} (h : InsAt w b i) (hne : b' ≠ b) (v : Value) : InsAt (w.setCell ⟨b', k, none⟩ v) b i :=
  ⟨by rw [World.cell?_setCell_far _ _ _ _ hne]; exact h.c0, by rw [World.cell?_setCell_far _ _ _ _ hne]; exact h.c1, by rw [World.cell?_setCell_far _ _ _ _ hne]; exact h.c2, by rw [World.cell?_setCell_far _ _ _ _ hne]; exact h.c3, by rw [World.cell?_setCell_far _ _ _ _ hne]; exact h.c4, fun j => by rw [free_set]; exact h.free j⟩
theorem InsAt.put0 {w : World} {b : Nat} {i : Ins} (h : InsAt w b i) (x : Int) : InsAt (w.setCell ⟨b, 0, none⟩ (.int .i64 x)) b (x, i.a, i.b, i.n, i.key) :=
  ⟨World.cell?_setCell_same _ _ _ h.c0, by rw [set_off (by decide)]; exact h.c1, by rw [set_off (by decide)]; exact h.c2, by rw [set_off (by decide)]; exact h.c3, by rw [set_off (by decide)]; exact h.c4, fun j => by rw [free_set]; exact h.free j⟩
theorem InsAt.put1 {w : World} {b : Nat} {i : Ins} (h : InsAt w b i) (x : Int) : InsAt (w.setCell ⟨b, 1, none⟩ (.int .i64 x)) b (i.kind, x, i.b, i.n, i.key) :=
  ⟨by rw [set_off (by decide)]; exact h.c0, World.cell?_setCell_same _ _ _ h.c1, by rw [set_off (by decide)]; exact h.c2, by rw [set_off (by decide)]; exact h.c3, by rw [set_off (by decide)]; exact h.c4, fun j => by rw [free_set]; exact h.free j⟩
theorem InsAt.put2 {w : World} {b : Nat} {i : Ins} (h : InsAt w b i) (x : Int) : InsAt (w.setCell ⟨b, 2, none⟩ (.int .i64 x)) b (i.kind, i.a, x, i.n, i.key) :=
  ⟨by rw [set_off (by decide)]; exact h.c0, by rw [set_off (by decide)]; exact h.c1, World.cell?_setCell_same _ _ _ h.c2, by rw [set_off (by decide)]; exact h.c3, by rw [set_off (by decide)]; exact h.c4, fun j => by rw [free_set]; exact h.free j⟩
theorem InsAt.put3 {w : World} {b : Nat} {i : Ins} (h : InsAt w b i) (x : Int) : InsAt (w.setCell ⟨b, 3, none⟩ (.int .i64 x)) b (i.kind, i.a, i.b, x, i.key) :=
  ⟨by rw [set_off (by decide)]; exact h.c0, by rw [set_off (by decide)]; exact h.c1, by rw [set_off (by decide)]; exact h.c2, World.cell?_setCell_same _ _ _ h.c3, by rw [set_off (by decide)]; exact h.c4, fun j => by rw [free_set]; exact h.free j⟩
theorem InsAt.put4 {w : World} {b : Nat} {i : Ins} (h : InsAt w b i) (s : ByteArray) : InsAt (w.setCell ⟨b, 4, none⟩ (.string s)) b (i.kind, i.a, i.b, i.n, s) :=
  ⟨by rw [set_off (by decide)]; exact h.c0, by rw [set_off (by decide)]; exact h.c1, by rw [set_off (by decide)]; exact h.c2, by rw [set_off (by decide)]; exact h.c3, World.cell?_setCell_same _ _ _ h.c4, fun j => by rw [free_set]; exact h.free j⟩
/-- All five places at once. -/
def setFive (w : World) (b : Nat) (j : Ins) : World := ((((w.setCell ⟨b, 0, none⟩ (.int .i64 j.kind)).setCell ⟨b, 1, none⟩ (.int .i64 j.a)).setCell ⟨b, 2, none⟩ (.int .i64 j.b)).setCell ⟨b, 3, none⟩ (.int .i64 j.n)).setCell ⟨b, 4, none⟩ (.string j.key)
theorem InsAt.all {w : World} {b : Nat} {i : Ins} (h : InsAt w b i) (j : Ins) : InsAt (setFive w b j) b j := ((((h.put0 j.kind).put1 j.a).put2 j.b).put3 j.n).put4 j.key
theorem below_five {w0 w : World} (h : Below w0.heap.size w0 w) {b : Nat} (hb : w0.heap.size ≤ b) (j : Ins) : Below w0.heap.size w0 (setFive w b j) :=
  ((((h.setCell (p := ⟨b, 0, none⟩) hb _).setCell (p := ⟨b, 1, none⟩) hb _).setCell (p := ⟨b, 2, none⟩) hb _).setCell (p := ⟨b, 3, none⟩) hb _).setCell (p := ⟨b, 4, none⟩) hb _
theorem five_new (w : World) (i : Ins) (t : TypeId) : InsAt (w.alloc (.cells #[.int .i64 i.kind, .int .i64 i.a, .int .i64 i.b, .int .i64 i.n, .string i.key] t)) w.heap.size i :=
  ⟨box_cell _ _ _ _ _ rfl, box_cell _ _ _ _ _ rfl, box_cell _ _ _ _ _ rfl, box_cell _ _ _ _ _ rfl, box_cell _ _ _ _ _ rfl, fun _ => World.frozen?_alloc_at _ _ _ _ rfl⟩
end Go.Proofs.YthmkgfdglkdjmadGreatDoor
