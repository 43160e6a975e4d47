/-
  Plain mathematics of what is forgotten: it goes on the same, and what is done leaves one version each.
  Plain mathematics of the three deeds that chapter 8 asks of first: their texts, and what is planned, done and forgotten of them.
  Mark, Size and Seen of the program's tidy, walked.
-/
import Derived.Test.YtdnafpenljdinadDoorRunOne
import Derived.Test.YtdnafpenljdinadDoorEngFit
import Derived.Test.YtdnafpenljdinadDoorRefOldE
import Derived.Test.YtdnafpenljdinadDoorRefBefore
namespace Go.Proofs.YtdnafpenljdinadDoor
open Go.RowKit

/-! ### Behind Clear -/
theorem mark_clear {r0 : List Row} {D : List Deed3} {m : Nat} {dn : Nat → Bool} {b : ByteArray → Int} {e : Eng} (G : Good r0 D m dn b e) : Good r0 D (m + markE e) dn (fun k => (seenV r0 D dn b k m (markE e)).by_) (clearE e (markE e)) := G.clear G.mark.le G.mark.done
theorem mark_zero {r0 : List Row} {D : List Deed3} {m : Nat} {dn : Nat → Bool} {b : ByteArray → Int} {e : Eng} (G : Good r0 D m dn b e) : markE (clearE e (markE e)) = 0 := by
  have X := (mark_clear G).mark
  have M := G.mark
  generalize markE (clearE e (markE e)) = k at X
  rcases Nat.eq_zero_or_pos k with h | h
  · exact h
  · have h1 := X.le
    have h2 := X.done (m + markE e) (Nat.le_refl _) (by omega)
    have h3 := M.wait (by omega)
    rw [h2] at h3; cases h3
theorem last_made {l : List Ver} {o o' : Ver} (h : o.made = o'.made) : (l.getLastD o).made = (l.getLastD o').made := by
  rw [List.getLastD_eq_getLast?, List.getLastD_eq_getLast?]
  cases l.getLast? with
  | none => exact h
  | some v => rfl
theorem old_made (r0 : List Row) (D : List Deed3) (m : Nat) (b : ByteArray → Int) (k : ByteArray) : ((oldV r0 D m b k).getLastD ver0).made = true := by
  unfold oldV
  split <;> rfl
theorem made_clear {r0 : List Row} {D : List Deed3} {m : Nat} {dn : Nat → Bool} {b : ByteArray → Int} {e : Eng} (G : Good r0 D m dn b e) {n q : Nat} (hn : m + (n + q) ≤ D.length) (hd : ∀ i, m ≤ i → i < m + n → dn i = true) (k : ByteArray) : (before (clearE e n).chains k ((m + n + q : Nat) : Int)).made = (before e.chains k ((m + (n + q) : Nat) : Int)).made := by
  have X := G.clear (n := n) (by omega) hd
  rw [seen_of X (n := q) (by omega) k, seen_of G hn k]
  unfold seenV
  rw [newsV_append, getLastD_append]
  refine last_made ?_
  rw [old_made]
  have h := all_made G (n := n) (by omega) hd k
  rw [seen_of G (by omega) k] at h
  exact h.symm
theorem needs_clear {r0 : List Row} {D : List Deed3} {m : Nat} {dn : Nat → Bool} {b : ByteArray → Int} {e : Eng} (G : Good r0 D m dn b e) {n q : Nat} (hn : m + (n + q) < D.length) (hd : ∀ i, m ≤ i → i < m + n → dn i = true) : needsE (clearE e n) q = [] ↔ needsE e (n + q) = [] := by
  have X := G.clear (n := n) (by omega) hd
  rw [needs_nil X (p := q) (by omega), needs_nil G hn, show m + n + q = m + (n + q) from Nat.add_assoc _ _ _]
  have h := fun k => made_clear G (n := n) (q := q) (by omega) hd k
  rw [show m + n + q = m + (n + q) from Nat.add_assoc _ _ _] at h
  constructor
  · intro H x hx; rw [← h]; exact H x hx
  · intro H x hx; rw [h]; exact H x hx
/-- The same deeds are ready, each at a place that is less by those that are gone. -/
theorem ready_clear {r0 : List Row} {D : List Deed3} {m : Nat} {dn : Nat → Bool} {b : ByteArray → Int} {e : Eng} (G : Good r0 D m dn b e) {n : Nat} (hn : m + n ≤ D.length) (hd : ∀ i, m ≤ i → i < m + n → dn i = true) : readyE e = (readyE (clearE e n)).map (fun q => n + q) := by
  have X := G.clear hn hd
  have hl : e.deeds.length = n + (clearE e n).deeds.length := by rw [G.len, X.len]; omega
  unfold readyE
  rw [hl, List.range_add, List.filter_append, List.filter_map]
  have h1 : (List.range n).filter (fun p => decide (e.state.getD p 0 = 0) && (needsE e p).isEmpty) = [] := by
    rw [List.filter_eq_nil_iff]
    intro p hp
    have hp := List.mem_range.1 hp
    rw [G.state_at (by omega), hd (m + p) (by omega) (by omega)]
    simp
  rw [h1, List.nil_append]
  congr 1
  refine List.filter_congr fun q hq => ?_
  have hq := List.mem_range.1 hq
  rw [X.len] at hq
  show (decide (e.state.getD (n + q) 0 = 0) && (needsE e (n + q)).isEmpty) = _
  rw [G.state_at (p := n + q) (by omega), X.state_at (p := q) (by omega), show m + (n + q) = m + n + q from (Nat.add_assoc _ _ _).symm]
  congr 1
  have := needs_clear G (n := n) (q := q) (by omega) hd
  cases h2 : needsE (clearE e n) q with
  | nil => rw [this.1 h2]
  | cons a l =>
    cases h3 : needsE e (n + q) with
    | nil => rw [this.2 h3] at h2; cases h2
    | cons a' l' => rfl

/-! ### When all is done -/
theorem done_rows {r0 : List Row} {D : List Deed3} {m : Nat} {dn : Nat → Bool} {b : ByteArray → Int} {y : Eng} (G : Good r0 D m dn b y) (h : ∀ i, m ≤ i → i < D.length → dn i = true) : rowsC y.chains (y.base + y.deeds.length) = some (seqR r0 D D.length) := by
  have hle := G.le
  have := G.sees (n := y.deeds.length) (by rw [G.len]; omega) (fun i h1 h2 => h i h1 (by rw [G.len] at h2; omega))
  rw [this, G.len, show m + (D.length - m) = D.length from by omega]
theorem done_ends {r0 : List Row} {D : List Deed3} {m n : Nat} {dn dn' : Nat → Bool} {b b' : ByteArray → Int} {y z : Eng} (G : Good r0 D m dn b y) (X : Good r0 D (m + n) dn' b' z) (h : ∀ i, m ≤ i → i < D.length → dn i = true) (h' : ∀ i, m + n ≤ i → i < D.length → dn' i = true) : y.ends.drop n = z.ends := by
  rw [G.ends, X.ends, ← List.map_drop, List.drop_range', Nat.mul_one, show D.length - m - n = D.length - (m + n) from by omega]
  refine List.map_congr_left fun i hi => ?_
  have hi := List.mem_range'_1.1 hi
  have hle := X.le
  rw [if_pos (h i (by omega) (by omega)), if_pos (h' i (by omega) (by omega))]
theorem done_mark {r0 : List Row} {D : List Deed3} {m : Nat} {dn : Nat → Bool} {b : ByteArray → Int} {y : Eng} (G : Good r0 D m dn b y) (h : ∀ i, m ≤ i → i < D.length → dn i = true) : m + markE y = D.length := by
  have M := G.mark
  have hle := M.le
  rcases Nat.lt_or_ge (m + markE y) D.length with h1 | h1
  · have := M.wait h1
    rw [h _ (by omega) h1] at this; cases this
  · omega
/-- Chains of one version each, by rows. -/
def oneEach (b : ByteArray → Int) (r : List Row) : List Chn := r.map (fun x => (x.1, [(b x.1, true, true, x.2)]))
theorem vsOf_each (b : ByteArray → Int) (k : ByteArray) : ∀ r : List Row, Srt r → vsOf k (oneEach b r) = if isAt k r = true then [(b k, true, true, num k r)] else []
  | [], _ => rfl
  | x :: r, h => by
    obtain ⟨h1, h2⟩ := srt_cons.1 h
    show vsOf k ((x.1, [(b x.1, true, true, x.2)]) :: oneEach b r) = _
    rw [vsOf, isAt, num]
    rcases less_cases x.1 k with g | g | g
    · rw [if_neg (less_ne g), if_pos g, if_pos g]
      exact vsOf_each b k r h2
    · subst g
      simp [less_irrefl]
    · have g2 := less_asymm g
      rw [if_neg (fun e => less_ne g e.symm)]
      simp only [g, g2]
      have := vsOf_each b k r h2
      rw [(isAt_front (k := k) (l := r) (fun y hy => less_trans g (h1 y hy))).1] at this
      simpa using this
theorem each_is {r0 : List Row} {D : List Deed3} {dn : Nat → Bool} {b : ByteArray → Int} {x : Eng} (X : Good r0 D D.length dn b x) : x.chains = oneEach b (seqR r0 D D.length) := by
  have hr := seqR_right X.rows X.right D.length
  refine chains_ext X.srt ?_ X.some_ ?_ (fun k => ?_)
  · show SrtC (oneEach b _)
    unfold SrtC oneEach
    rw [List.pairwise_map]
    exact hr.srt
  · intro c hc
    obtain ⟨x, _, rfl⟩ := List.mem_map.1 hc
    simp
  · rw [X.vs k, vsOf_each b k _ hr.srt, Nat.sub_self]
    show oldV r0 D D.length b k ++ [] = _
    rw [List.append_nil]
    rfl
theorem each_length (b : ByteArray → Int) (r : List Row) : (oneEach b r).length = r.length := by simp [oneEach]
theorem each_size (b : ByteArray → Int) : ∀ r : List Row, sizeC (oneEach b r) = r.length
  | [] => rfl
  | x :: r => by
    show [(b x.1, true, true, x.2)].length + sizeC (oneEach b r) = _
    rw [each_size b r]
    simp [Nat.add_comm]

/-! ### What is told of a moment -/
/-- How Seen ends: what keys have, and why not. -/
def seenTo (e : Eng) (at_ : Int) : List Row × Int :=
  if at_ < 0 ∨ (e.deeds.length : Int) < at_ then ([], 6)
  else match rowsC e.chains (e.base + at_) with
    | none => ([], 10)
    | some r => (r, 0)
theorem seen_end {r0 : List Row} {D : List Deed3} {m : Nat} {dn : Nat → Bool} {b : ByteArray → Int} {y : Eng} (G : Good r0 D m dn b y) (h : ∀ i, m ≤ i → i < D.length → dn i = true) : seenTo y y.deeds.length = (seqR r0 D D.length, 0) := by
  unfold seenTo
  rw [if_neg (by omega), done_rows G h]
end Go.Proofs.YtdnafpenljdinadDoor

namespace Go.Proofs.YtdnafpenljdinadDoor
open Go.RowKit

def drpI : List Ins := [(7, 0, 0, 0, oneA)]
def drpD : Deed3 := ([], [oneA], drpI)
def idlD : Deed3 := ([], [oneB], [])
/-- reads; writes a; drop a -/
def drpT : T := [114, 101, 97, 100, 115, 59, 32, 119, 114, 105, 116, 101, 115, 32, 97, 59, 32, 100, 114, 111, 112, 32, 97]
/-- reads; writes b -/
def idlT : T := [114, 101, 97, 100, 115, 59, 32, 119, 114, 105, 116, 101, 115, 32, 98]
theorem drp_right : wDeed [] [oneA] drpI = 0 := by decide
theorem idl_right : wDeed [] [oneB] [] = 0 := by decide
theorem drp_text : printT [] [oneA] drpI = drpT := by
  unfold printT partsOf drpI
  have h1 : insWords (7, 0, 0, 0, oneA) = [word 7, [97]] := by
    show [word 7, keyT oneA] = _
    rfl
  simp only [List.map_cons, List.map_nil]
  rw [h1]
  rfl
theorem idl_text : printT [] [oneB] [] = idlT := by
  unfold printT partsOf
  rfl
theorem drp_read : readT drpT = (0, [], [oneA], drpI) := by rw [← drp_text]; exact read_print drp_right
theorem idl_read : readT idlT = (0, [], [oneB], []) := by rw [← idl_text]; exact read_print idl_right
theorem b_small : SmallT [oneB] := fun x hx => by simp at hx; subst hx; decide
theorem drp_small : SmallT drpD.1 ∧ SmallT drpD.2.1 := ⟨(fun x hx => by cases hx), one_small⟩
theorem idl_small : SmallT idlD.1 ∧ SmallT idlD.2.1 := ⟨(fun x hx => by cases hx), b_small⟩
theorem drpRight : RightDD drpD := right_deed drp_right
theorem idlRight : RightDD idlD := right_deed idl_right
def eitDs : List Deed3 := [sevD, drpD, idlD]
theorem eit_rights : RightDs eitDs := fun d hd => by
  simp [eitDs] at hd
  rcases hd with rfl | rfl | rfl
  · exact sevRight
  · exact drpRight
  · exact idlRight
def eitR : List Row := [(oneB, 1)]
theorem eitR_right : Right eitR := right_of (by decide)
def eitE : Eng := addAll (newE eitR) eitDs
def eitX : Eng := goE eitE 0
theorem eit_wDs : wDs eitDs = 0 := wDs_of eit_rights
theorem eit_needs0 : needsE eitE 0 = [] := rfl
theorem eit_good : Good eitR eitDs 0 (fun _ => false) (fun _ => -1) eitE := (Good.new eitR_right).addAll eit_rights
theorem eit_goodX : Good eitR eitDs 0 (doneNow (fun _ => false) (0 + 0)) (fun _ => -1) eitX := eit_good.go (p := 0) (by decide) eit_needs0
theorem eit_mark : markE eitX = 1 := by decide +kernel
theorem eit_seen1 : (seenTo eitX 1).2 = 0 ∧ (seenTo eitX 1).1.length = 2 := by decide +kernel
theorem eit_seen3 : (seenTo eitX 3).2 = 10 := by decide +kernel
theorem eit_clear : (clearE eitX 1).base = 1 ∧ (clearE eitX 1).deeds.length = 2 := by decide +kernel
theorem eit_size : sizeC eitX.chains = 4 ∧ sizeC (clearE eitX 1).chains = 4 := by decide +kernel
end Go.Proofs.YtdnafpenljdinadDoor

namespace Go.Proofs.YtdnafpenljdinadDoor
open Go.RowKit

/-- A slice up to so many. -/
theorem slice_upto {t e sz : Nat} (hu : Tryd.prog.underlying t = some (.slice e)) (hz : ∀ w, (sizeOf e).run Tryd.prog w = .ok sz w) (base : Option Addr) (n c k : Nat) (hk : k ≤ c) (w : World) :
    (Instr.slice t (.slice base n c) none (some (.int .i64 (k : Int))) none).run Tryd.prog w = .ok (.slice (cutB base c 0 sz) k c) w := by
  have h1 : (0 : Int) ≤ (k : Int) ∧ (k : Int) ≤ (c : Int) := by omega
  have h2 : ((k : Int)).toNat = k := Int.toNat_natCast k
  have hur : ∀ w, (underlying t).run Tryd.prog w = .ok (.slice e) w := fun w => by simp [underlying, go_sem, hu]
  simp [Instr.slice, Instr.sliceBounds, Instr.sliceBound, go_sem, hur, hz, hk, cutB]

set_option maxHeartbeats 4000000 in
set_option maxRecDepth 100000 in
theorem tidyMark_calls (e : Eng) (v : Value) (w : World) (hv : EngIn w v e) (hs : e.state.length ≤ 1954687338211) (h1 : e.state.length = e.deeds.length) (h2 : e.ends.length = e.deeds.length) :
    Calls Tryd.prog 9 #[v] w fun x w' => x = .returned (.int .i64 (markE e)) ∧ Below w.heap.size w w' := by
  obtain ⟨cb, cn, cc, db, dn, dc, sb, sn, sc, eb, en, ec, rfl, hl⟩ := hv
  obtain rfl : sn = dn := by rw [Ints.count hl.st, h1, ← hl.de.len]
  obtain rfl : en = sn := by rw [Ends.count hl.en, h2, ← h1, ← Ints.count hl.st]
  have hsn : en = e.state.length := Ints.count hl.st
  have hsm : en ≤ 1954687338211 := by omega
  have hsc : en ≤ sc := hl.st.hdr.le
  have HSN := hid hsn
  have HMK : Hid (markE e = markS e.state) := rfl
  have HML := hid (markS_le e.state)
  have HM1 := hid (fun k hk => markS_one (l := e.state) (k := k) hk)
  have HME := hid (markS_end (l := e.state))
  have HBX := hid (Box.new w #[.slice cb cn cc, .slice db en dc, .slice sb en sc, .slice eb en ec, .int .i64 e.base] 33)
  have HBA := hid (grew w (.cells #[.slice cb cn cc, .slice db en dc, .slice sb en sc, .slice eb en ec, .int .i64 e.base] 33))
  have HS0 := hid (hl.below HBA.out).st
  have HST : Hid (Ints (w.alloc (.cells #[.slice cb cn cc, .slice db en dc, .slice sb en sc, .slice eb en ec, .int .i64 e.base] 33)) (cutB sb sc 0 1) en sc e.state) := by
    have := ints_cut HS0.out (k := 0) (Nat.zero_le _)
    show Ints _ _ _ _ _
    simpa using this
  have hs1 := slice_upto (t := 25) Tryd.underlying25 Tryd.sizeOf3 sb en sc en hsc
  clear hl hsn hs h1 h2 hsc
  go_enter Tryd.func9, Tryd.ntmps9
  go_upto_region 1 with fail
  generalize w.alloc (.cells #[.slice cb cn cc, .slice db en dc, .slice sb en sc, .slice eb en ec, .int .i64 e.base] 33) = A at *
  obtain ⟨x0, x1, x2, x3, x4⟩ := HBX.out.cells5
  have hxl : w.heap.size < A.heap.size := HBX.out.lt
  have hmin : ¬ ((en : Int) < (en : Int)) := by omega
  generalize cutB sb sc 0 1 = sb' at *
  go_wp2
  go_loopw [21] (fun i wr => ∃ k : Nat, k ≤ markS e.state ∧ i = .int .i64 k ∧ Hid (wr = A)) (fun i _ => en - (intOf i).toNat)
  case atStart => exact ⟨0, Nat.zero_le _, rfl, rfl⟩
  case round =>
    obtain ⟨k, hk, rfl, HWE⟩ := hrel
    have hwe := HWE.out
    subst hwe
    have hks : k ≤ en := by have := HML.out; have := HSN.out; omega
    by_cases hlt : k < en
    · have hkl : k < e.state.length := by rw [← HSN.out]; exact hlt
      have hi : (k : Int) < (en : Int) := by omega
      obtain ⟨b1, o1, rfl, hrun⟩ : ∃ b1 o1, sb' = some ⟨b1, o1, none⟩ ∧ Run wr b1 o1 (intsC e.state) := by
        rcases HST.out.run with h | h
        · omega
        · exact h
      have k0 := hrun k _ (intsC_at hkl)
      have hb1 : b1 < wr.heap.size := by simpa using World.block_lt_of_cell? _ _ k0
      have d1 : decide ((k : Int) < (en : Int)) = true := by simpa using hlt
      clear hrun
      by_cases hm : k < markS e.state
      · have h1 := HM1.out k hm
        rw [h1] at k0
        clear h1
        go_wp2
        go_roundw
        case rel => exact ⟨k + 1, by omega, by go_num, trivial⟩
        case measure => simp [intOf]; omega
      · obtain rfl : k = markS e.state := by omega
        have h1 := HME.out hkl
        generalize e.state.getD (markS e.state) 0 = s at *
        have t : (s != 1) = true := by simpa using h1
        have t' : (s == 1) = false := by simpa using h1
        clear h1
        generalize markS e.state = k at *
        go_wp2
        go_ret
        exact ⟨ret_int (by rw [HMK.out]), HBA.out⟩
    · obtain rfl : k = en := by omega
      have HKM : Hid (markE e = k) := by show _ = _; rw [HMK.out]; have := HML.out; have := HSN.out; omega
      have d1 : decide ((k : Int) < (k : Int)) = false := by simp
      go_wp2
      go_ret
      exact ⟨ret_int (by rw [HKM.out]), HBA.out⟩

theorem sizeC_end (x : Chn) : ∀ L : List Chn, sizeC (L ++ [x]) = sizeC L + x.2.length
  | [] => by simp [sizeC]
  | c :: L => by simp [sizeC, sizeC_end x L]; omega
theorem Good.few {r0 : List Row} {D : List Deed3} {m : Nat} {dn : Nat → Bool} {b : ByteArray → Int} {e : Eng} (G : Good r0 D m dn b e) (hD : D.length ≤ 4000002) : ∀ c ∈ e.chains, c.2.length ≤ 4000003 := fun c hc => by
  have := G.vs_len c.1
  rw [vsOf_own G.srt hc] at this
  omega

set_option maxHeartbeats 2000000 in
set_option maxRecDepth 100000 in
theorem tidySize_calls (e : Eng) (v : Value) (w : World) (hf : FitC e.chains) (hs : ∀ c ∈ e.chains, c.2.length ≤ 4000003) (hv : EngIn w v e) :
    Calls Tryd.prog 11 #[v] w fun x w' => x = .returned (.int .i64 (sizeC e.chains)) ∧ Below w.heap.size w w' := by
  obtain ⟨cb, cn, cc, db, dn, dc, sb, sn, sc, eb, en, ec, rfl, hl⟩ := hv
  have hcn : cn ≤ 387420489 := by rw [hl.ch.len]; exact hf.count
  have HLN := hid hl.ch.len
  have HF := hid hs
  have HBX := hid (Box.new w #[.slice cb cn cc, .slice db dn dc, .slice sb sn sc, .slice eb en ec, .int .i64 e.base] 33)
  have HBA := hid (grew w (.cells #[.slice cb cn cc, .slice db dn dc, .slice sb sn sc, .slice eb en ec, .int .i64 e.base] 33))
  have HA := hid (hl.below HBA.out).ch
  clear hl hf hs
  go_enter Tryd.func11, Tryd.ntmps11
  go_upto_region 1 with fail
  generalize w.alloc (.cells #[.slice cb cn cc, .slice db dn dc, .slice sb sn sc, .slice eb en ec, .int .i64 e.base] 33) = A at *
  obtain ⟨x0, x1, x2, x3, x4⟩ := HBX.out.cells5
  have hxl : w.heap.size < A.heap.size := HBX.out.lt
  obtain ⟨L, hL⟩ : ∃ L, e.chains = L := ⟨_, rfl⟩
  have HCH := hid hL
  rw [hL] at HLN HF HA
  clear hL
  go_wp2
  go_loopw [3, 9] (fun s i wr => ∃ j t : Nat, j ≤ cn ∧ t ≤ j * 4000003 ∧ i = .int .i64 j ∧ s = .int .i64 t ∧ Hid (t = sizeC (L.take j)) ∧ Hid (Below A.heap.size A wr)) (fun _ i _ => cn - (intOf i).toNat)
  case atStart => exact ⟨0, 0, Nat.zero_le _, Nat.zero_le _, rfl, rfl, rfl, Below.refl _ _⟩
  case round =>
    obtain ⟨j, t, hj, htj, rfl, rfl, HT, HBR⟩ := hrel
    by_cases hlt : j < cn
    · have hjl : j < L.length := by rw [← HLN.out]; exact hlt
      have hi : (j : Int) < (cn : Int) := by omega
      rcases (HA.out.below HBR.out).run with h | ⟨b, o, rfl, hrun⟩
      · omega
      obtain ⟨vb, vn, vc, c0, c1, hvv, hkz⟩ := hrun j hlt
      have hbw : b < wr.heap.size := by simpa using World.block_lt_of_cell? _ _ c0
      have hfew := HF.out _ (memC hjl)
      have hvn := Vers.count hvv
      rw [← hvn] at hfew
      have HNX : Hid (t + vn = sizeC (L.take (j + 1))) := by
        show _ = _
        rw [take_snoc_getD hjl, sizeC_end, ← HT.out, hvn]
      generalize (L.getD j default).1 = key at *
      clear hvv hkz hrun hvn
      go_wp2
      go_roundw
      case rel => exact ⟨j + 1, t + vn, by omega, by omega, by go_num, by go_num, HNX, below_deep HBR.out (grew _ _)⟩
      case measure => simp [intOf]; omega
    · obtain rfl : j = cn := by omega
      have HT2 : Hid (t = sizeC L) := by
        have := HT.out
        rw [List.take_of_length_le (by rw [← HLN.out]; exact Nat.le_refl _)] at this
        exact this
      go_wp2
      go_ret
      exact ⟨ret_int (by rw [HT2.out, HCH.out]), below_deep HBA.out HBR.out⟩

def SeenTold (w w' : World) (e : Eng) (at_ : Int) (x : Ending) : Prop := ∃ b n c, x = .returned (.tuple #[.slice b n c, .int .i64 (seenTo e at_).2]) ∧ Holds w' b n c (seenTo e at_).1 ∧ Below w.heap.size w w'
theorem seen_told {w w' : World} {e : Eng} {at_ : Int} {l : List Row} {q : Int} {b : Option Addr} {n c : Nat} (hT : seenTo e at_ = (l, q)) (hh : Holds w' b n c l) (hb : Below w.heap.size w w') : SeenTold w w' e at_ (.returned (.tuple #[.slice b n c, .int .i64 q])) :=
  ⟨b, n, c, by rw [hT], by rw [hT]; exact hh, hb⟩
theorem nil_holds (w : World) : Holds w none 0 0 [] := Holds.empty _ rfl rfl ⟨Nat.le_refl _, Nat.zero_le _, fun _ => rfl⟩

set_option maxHeartbeats 4000000 in
set_option maxRecDepth 100000 in
theorem tidySeen_calls {r0 : List Row} {D : List Deed3} {m : Nat} {dq : Nat → Bool} {bq : ByteArray → Int} {e : Eng} (G : Good r0 D m dq bq e) (hD : D.length ≤ 1954687338211) (at_ : Int) (v : Value) (w : World) (hv : EngIn w v e) :
    Calls Tryd.prog 13 #[v, .int .i64 at_] w fun x w' => SeenTold w w' e at_ x := by
  obtain ⟨cb, cn, cc, db, dn, dc, sb, sn, sc, eb, en, ec, rfl, hl⟩ := hv
  have hle := G.le
  have hz0 : 0 ≤ e.base := by rw [G.base]; omega
  have hz1 : e.base ≤ 1954687338211 := by rw [G.base]; omega
  have HDL := hid hl.de.len
  have hdn : dn ≤ 1954687338211 := by rw [hl.de.len, G.len]; omega
  have HFIT := hid (G.fit hD)
  have HBX := hid (Box.new w #[.slice cb cn cc, .slice db dn dc, .slice sb sn sc, .slice eb en ec, .int .i64 e.base] 33)
  have HB0 := hid (grew w (.cells #[.slice cb cn cc, .slice db dn dc, .slice sb sn sc, .slice eb en ec, .int .i64 e.base] 33))
  have HL := hid (hl.below HB0.out)
  clear G hD hl hle
  go_enter Tryd.func13, Tryd.ntmps13
  go_upto_region 1 with fail
  generalize w.alloc (.cells #[.slice cb cn cc, .slice db dn dc, .slice sb sn sc, .slice eb en ec, .int .i64 e.base] 33) = A at *
  obtain ⟨x0, x1, x2, x3, x4⟩ := HBX.out.cells5
  have hxl : w.heap.size < A.heap.size := HBX.out.lt
  by_cases hneg : at_ < 0
  · have HT : Hid (seenTo e at_ = ([], 6)) := by show _ = _; unfold seenTo; rw [if_pos (.inl hneg)]
    have t1 : decide (at_ < 0) = true := by simpa using hneg
    clear hneg
    go_wp2
    go_ret2
    exact seen_told HT.out (nil_holds _) HB0.out
  obtain ⟨k, rfl⟩ : ∃ k : Nat, at_ = (k : Int) := ⟨at_.toNat, by omega⟩
  have t1 : decide ((k : Int) < 0) = false := by simp
  by_cases hbig : dn < k
  · have HT : Hid (seenTo e k = ([], 6)) := by show _ = _; unfold seenTo; rw [if_pos (.inr (by rw [← HDL.out]; omega))]
    have t2 : decide ((dn : Int) < (k : Int)) = true := by simp; omega
    have t3 : decide (dn < k) = true := by simp; omega
    clear hneg
    go_wp2
    go_ret2
    exact seen_told HT.out (nil_holds _) HB0.out
  have t2 : decide ((dn : Int) < (k : Int)) = false := by simp; omega
  have t3 : decide (dn < k) = false := by simp; omega
  have hsum : IntKind.i64.wrap (e.base + (k : Int)) = e.base + k := by rw [IntKind.wrap_i64]; omega
  have HST : Hid (seenTo e k = match rowsC e.chains (e.base + k) with | none => ([], 10) | some r => (r, 0)) := by
    show _ = _
    unfold seenTo
    rw [if_neg (by rw [← HDL.out]; omega)]
    all_goals (cases rowsC e.chains (e.base + (k : Int)) <;> rfl)
  have PRA := hid (rowsC_calls e.chains cb cn cc (e.base + k) A HFIT.out HL.out.ch)
  clear hneg hbig
  cases hrc : rowsC e.chains (e.base + (k : Int)) with
  | none =>
    rw [hrc] at HST
    unfold RowsTold at PRA
    rw [hrc] at PRA
    clear hrc
    go_wp2_with fail
    refine PRA.out.mono ?_
    rintro x w1 ⟨b9, n9, c9, ok, rfl, rfl, h9, hb9⟩
    have HB1 := hid (below_deep HB0.out hb9)
    clear h9 hb9 PRA
    simp only [Option.isSome_none]
    go_wp2
    go_ret2
    exact seen_told HST.out (nil_holds _) HB1.out
  | some r =>
    rw [hrc] at HST
    unfold RowsTold at PRA
    rw [hrc] at PRA
    clear hrc
    go_wp2_with fail
    refine PRA.out.mono ?_
    rintro x w1 ⟨b9, n9, c9, ok, rfl, rfl, h9, hb9⟩
    have HB1 := hid (below_deep HB0.out hb9)
    have H9 : Hid (Holds w1 b9 n9 c9 r) := h9
    clear h9 hb9 PRA
    simp only [Option.isSome_some]
    go_wp2
    go_ret2
    exact seen_told HST.out H9.out HB1.out
end Go.Proofs.YtdnafpenljdinadDoor
