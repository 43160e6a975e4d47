/-
  Mark, Size and Seen of the program's tidy, walked.
  Plain mathematics of a deed that is done: what each key that it writes has then, as the program takes it from what Run made, or from what the key had.
  The document's own Seen and Finish of engines, walked.
-/
import Derived.Test.YtdnafpenljdinadTidyMath
import Derived.Test.YtdnafpenljdinadRefOldE
import Derived.Test.YtdnafpenljdinadRefRight
import Derived.Test.YtdnafpenljdinadDeedTurn
import Derived.Test.YtdnafpenljdinadEngFit
import Derived.Test.YtdnafpenljdinadRefGoE
import Derived.Test.YtdnafpenljdinadRefBefore
import Derived.Deep.LoopGhost
namespace Go.Proofs.Ytdnafpenljdinad
open Go.RowKit

/-- A slice up to so many. -/
theorem slice_upto {t e sz : Nat} (hu : Try.prog.underlying t = some (.slice e)) (hz : ∀ w, (sizeOf e).run Try.prog w = .ok sz w) (base : Option Addr) (n c k : Nat) (hk : k ≤ c) (w : World) :
    (Instr.slice t (.slice base n c) none (some (.int .i64 (k : Int))) none).run Try.prog w = .ok (.slice (cutB base c 0 sz) k c) w := by
  have h1 : (0 : Int) ≤ (k : Int) ∧ (k : Int) ≤ (c : Int) := by omega
  have h2 : ((k : Int)).toNat = k := Int.toNat_natCast k
  have hur : ∀ w, (underlying t).run Try.prog w = .ok (.slice e) w := fun w => by simp [underlying, go_sem, hu]
  simp [Instr.slice, Instr.sliceBounds, Instr.sliceBound, go_sem, hur, hz, hk, cutB]

set_option maxHeartbeats 4000000 in
set_option maxRecDepth 100000 in
theorem tidyMark_calls (e : Eng) (v : Value) (w : World) (hv : EngIn w v e) (hs : e.state.length ≤ 1954687338211) (h1 : e.state.length = e.deeds.length) (h2 : e.ends.length = e.deeds.length) :
    Calls Try.prog 8 #[v] w fun x w' => x = .returned (.int .i64 (markE e)) ∧ Below w.heap.size w w' := by
  obtain ⟨cb, cn, cc, db, dn, dc, sb, sn, sc, eb, en, ec, rfl, hl⟩ := hv
  obtain rfl : sn = dn := by rw [Ints.count hl.st, h1, ← hl.de.len]
  obtain rfl : en = sn := by rw [Ends.count hl.en, h2, ← h1, ← Ints.count hl.st]
  have hsn : en = e.state.length := Ints.count hl.st
  have hsm : en ≤ 1954687338211 := by omega
  have hsc : en ≤ sc := hl.st.hdr.le
  have HSN := hid hsn
  have HMK : Hid (markE e = markS e.state) := rfl
  have HML := hid (markS_le e.state)
  have HM1 := hid (fun k hk => markS_one (l := e.state) (k := k) hk)
  have HME := hid (markS_end (l := e.state))
  have HBX := hid (Box.new w #[.slice cb cn cc, .slice db en dc, .slice sb en sc, .slice eb en ec, .int .i64 e.base] 32)
  have HBA := hid (grew w (.cells #[.slice cb cn cc, .slice db en dc, .slice sb en sc, .slice eb en ec, .int .i64 e.base] 32))
  have HS0 := hid (hl.below HBA.out).st
  have HST : Hid (Ints (w.alloc (.cells #[.slice cb cn cc, .slice db en dc, .slice sb en sc, .slice eb en ec, .int .i64 e.base] 32)) (cutB sb sc 0 1) en sc e.state) := by
    have := ints_cut HS0.out (k := 0) (Nat.zero_le _)
    show Ints _ _ _ _ _
    simpa using this
  have hs1 := slice_upto (t := 25) Try.underlying25 Try.sizeOf3 sb en sc en hsc
  clear hl hsn hs h1 h2 hsc
  go_enter Try.func8, Try.ntmps8
  go_upto_region 1 with fail
  generalize w.alloc (.cells #[.slice cb cn cc, .slice db en dc, .slice sb en sc, .slice eb en ec, .int .i64 e.base] 32) = A at *
  obtain ⟨x0, x1, x2, x3, x4⟩ := HBX.out.cells5
  have hxl : w.heap.size < A.heap.size := HBX.out.lt
  have hmin : ¬ ((en : Int) < (en : Int)) := by omega
  generalize cutB sb sc 0 1 = sb' at *
  go_wp2
  go_loopw [21] (fun i wr => ∃ k : Nat, k ≤ markS e.state ∧ i = .int .i64 k ∧ Hid (wr = A)) (fun i _ => en - (intOf i).toNat)
  case atStart => exact ⟨0, Nat.zero_le _, rfl, rfl⟩
  case round =>
    obtain ⟨k, hk, rfl, HWE⟩ := hrel
    have hwe := HWE.out
    subst hwe
    have hks : k ≤ en := by have := HML.out; have := HSN.out; omega
    by_cases hlt : k < en
    · have hkl : k < e.state.length := by rw [← HSN.out]; exact hlt
      have hi : (k : Int) < (en : Int) := by omega
      obtain ⟨b1, o1, rfl, hrun⟩ : ∃ b1 o1, sb' = some ⟨b1, o1, none⟩ ∧ Run wr b1 o1 (intsC e.state) := by
        rcases HST.out.run with h | h
        · omega
        · exact h
      have k0 := hrun k _ (intsC_at hkl)
      have hb1 : b1 < wr.heap.size := by simpa using World.block_lt_of_cell? _ _ k0
      have d1 : decide ((k : Int) < (en : Int)) = true := by simpa using hlt
      clear hrun
      by_cases hm : k < markS e.state
      · have h1 := HM1.out k hm
        rw [h1] at k0
        clear h1
        go_wp2
        go_roundw
        case rel => exact ⟨k + 1, by omega, by go_num, trivial⟩
        case measure => simp [intOf]; omega
      · obtain rfl : k = markS e.state := by omega
        have h1 := HME.out hkl
        generalize e.state.getD (markS e.state) 0 = s at *
        have t : (s != 1) = true := by simpa using h1
        have t' : (s == 1) = false := by simpa using h1
        clear h1
        generalize markS e.state = k at *
        go_wp2
        go_ret
        exact ⟨ret_int (by rw [HMK.out]), HBA.out⟩
    · obtain rfl : k = en := by omega
      have HKM : Hid (markE e = k) := by show _ = _; rw [HMK.out]; have := HML.out; have := HSN.out; omega
      have d1 : decide ((k : Int) < (k : Int)) = false := by simp
      go_wp2
      go_ret
      exact ⟨ret_int (by rw [HKM.out]), HBA.out⟩

theorem sizeC_end (x : Chn) : ∀ L : List Chn, sizeC (L ++ [x]) = sizeC L + x.2.length
  | [] => by simp [sizeC]
  | c :: L => by simp [sizeC, sizeC_end x L]; omega
theorem Good.few {r0 : List Row} {D : List Deed3} {m : Nat} {dn : Nat → Bool} {b : ByteArray → Int} {e : Eng} (G : Good r0 D m dn b e) (hD : D.length ≤ 4000002) : ∀ c ∈ e.chains, c.2.length ≤ 4000003 := fun c hc => by
  have := G.vs_len c.1
  rw [vsOf_own G.srt hc] at this
  omega

set_option maxHeartbeats 2000000 in
set_option maxRecDepth 100000 in
theorem tidySize_calls (e : Eng) (v : Value) (w : World) (hf : FitC e.chains) (hs : ∀ c ∈ e.chains, c.2.length ≤ 4000003) (hv : EngIn w v e) :
    Calls Try.prog 10 #[v] w fun x w' => x = .returned (.int .i64 (sizeC e.chains)) ∧ Below w.heap.size w w' := by
  obtain ⟨cb, cn, cc, db, dn, dc, sb, sn, sc, eb, en, ec, rfl, hl⟩ := hv
  have hcn : cn ≤ 387420489 := by rw [hl.ch.len]; exact hf.count
  have HLN := hid hl.ch.len
  have HF := hid hs
  have HBX := hid (Box.new w #[.slice cb cn cc, .slice db dn dc, .slice sb sn sc, .slice eb en ec, .int .i64 e.base] 32)
  have HBA := hid (grew w (.cells #[.slice cb cn cc, .slice db dn dc, .slice sb sn sc, .slice eb en ec, .int .i64 e.base] 32))
  have HA := hid (hl.below HBA.out).ch
  clear hl hf hs
  go_enter Try.func10, Try.ntmps10
  go_upto_region 1 with fail
  generalize w.alloc (.cells #[.slice cb cn cc, .slice db dn dc, .slice sb sn sc, .slice eb en ec, .int .i64 e.base] 32) = A at *
  obtain ⟨x0, x1, x2, x3, x4⟩ := HBX.out.cells5
  have hxl : w.heap.size < A.heap.size := HBX.out.lt
  obtain ⟨L, hL⟩ : ∃ L, e.chains = L := ⟨_, rfl⟩
  have HCH := hid hL
  rw [hL] at HLN HF HA
  clear hL
  go_wp2
  go_loopw [3, 9] (fun s i wr => ∃ j t : Nat, j ≤ cn ∧ t ≤ j * 4000003 ∧ i = .int .i64 j ∧ s = .int .i64 t ∧ Hid (t = sizeC (L.take j)) ∧ Hid (Below A.heap.size A wr)) (fun _ i _ => cn - (intOf i).toNat)
  case atStart => exact ⟨0, 0, Nat.zero_le _, Nat.zero_le _, rfl, rfl, rfl, Below.refl _ _⟩
  case round =>
    obtain ⟨j, t, hj, htj, rfl, rfl, HT, HBR⟩ := hrel
    by_cases hlt : j < cn
    · have hjl : j < L.length := by rw [← HLN.out]; exact hlt
      have hi : (j : Int) < (cn : Int) := by omega
      rcases (HA.out.below HBR.out).run with h | ⟨b, o, rfl, hrun⟩
      · omega
      obtain ⟨vb, vn, vc, c0, c1, hvv, hkz⟩ := hrun j hlt
      have hbw : b < wr.heap.size := by simpa using World.block_lt_of_cell? _ _ c0
      have hfew := HF.out _ (memC hjl)
      have hvn := Vers.count hvv
      rw [← hvn] at hfew
      have HNX : Hid (t + vn = sizeC (L.take (j + 1))) := by
        show _ = _
        rw [take_snoc_getD hjl, sizeC_end, ← HT.out, hvn]
      generalize (L.getD j default).1 = key at *
      clear hvv hkz hrun hvn
      go_wp2
      go_roundw
      case rel => exact ⟨j + 1, t + vn, by omega, by omega, by go_num, by go_num, HNX, below_deep HBR.out (grew _ _)⟩
      case measure => simp [intOf]; omega
    · obtain rfl : j = cn := by omega
      have HT2 : Hid (t = sizeC L) := by
        have := HT.out
        rw [List.take_of_length_le (by rw [← HLN.out]; exact Nat.le_refl _)] at this
        exact this
      go_wp2
      go_ret
      exact ⟨ret_int (by rw [HT2.out, HCH.out]), below_deep HBA.out HBR.out⟩

def SeenTold (w w' : World) (e : Eng) (at_ : Int) (x : Ending) : Prop := ∃ b n c, x = .returned (.tuple #[.slice b n c, .int .i64 (seenTo e at_).2]) ∧ Holds w' b n c (seenTo e at_).1 ∧ Below w.heap.size w w'
theorem seen_told {w w' : World} {e : Eng} {at_ : Int} {l : List Row} {q : Int} {b : Option Addr} {n c : Nat} (hT : seenTo e at_ = (l, q)) (hh : Holds w' b n c l) (hb : Below w.heap.size w w') : SeenTold w w' e at_ (.returned (.tuple #[.slice b n c, .int .i64 q])) :=
  ⟨b, n, c, by rw [hT], by rw [hT]; exact hh, hb⟩
theorem nil_holds (w : World) : Holds w none 0 0 [] := Holds.empty _ rfl rfl ⟨Nat.le_refl _, Nat.zero_le _, fun _ => rfl⟩

set_option maxHeartbeats 4000000 in
set_option maxRecDepth 100000 in
theorem tidySeen_calls {r0 : List Row} {D : List Deed3} {m : Nat} {dq : Nat → Bool} {bq : ByteArray → Int} {e : Eng} (G : Good r0 D m dq bq e) (hD : D.length ≤ 1954687338211) (at_ : Int) (v : Value) (w : World) (hv : EngIn w v e) :
    Calls Try.prog 6 #[v, .int .i64 at_] w fun x w' => SeenTold w w' e at_ x := by
  obtain ⟨cb, cn, cc, db, dn, dc, sb, sn, sc, eb, en, ec, rfl, hl⟩ := hv
  have hle := G.le
  have hz0 : 0 ≤ e.base := by rw [G.base]; omega
  have hz1 : e.base ≤ 1954687338211 := by rw [G.base]; omega
  have HDL := hid hl.de.len
  have hdn : dn ≤ 1954687338211 := by rw [hl.de.len, G.len]; omega
  have HFIT := hid (G.fit hD)
  have HBX := hid (Box.new w #[.slice cb cn cc, .slice db dn dc, .slice sb sn sc, .slice eb en ec, .int .i64 e.base] 32)
  have HB0 := hid (grew w (.cells #[.slice cb cn cc, .slice db dn dc, .slice sb sn sc, .slice eb en ec, .int .i64 e.base] 32))
  have HL := hid (hl.below HB0.out)
  clear G hD hl hle
  go_enter Try.func6, Try.ntmps6
  go_upto_region 1 with fail
  generalize w.alloc (.cells #[.slice cb cn cc, .slice db dn dc, .slice sb sn sc, .slice eb en ec, .int .i64 e.base] 32) = A at *
  obtain ⟨x0, x1, x2, x3, x4⟩ := HBX.out.cells5
  have hxl : w.heap.size < A.heap.size := HBX.out.lt
  by_cases hneg : at_ < 0
  · have HT : Hid (seenTo e at_ = ([], 6)) := by show _ = _; unfold seenTo; rw [if_pos (.inl hneg)]
    have t1 : decide (at_ < 0) = true := by simpa using hneg
    clear hneg
    go_wp2
    go_ret2
    exact seen_told HT.out (nil_holds _) HB0.out
  obtain ⟨k, rfl⟩ : ∃ k : Nat, at_ = (k : Int) := ⟨at_.toNat, by omega⟩
  have t1 : decide ((k : Int) < 0) = false := by simp
  by_cases hbig : dn < k
  · have HT : Hid (seenTo e k = ([], 6)) := by show _ = _; unfold seenTo; rw [if_pos (.inr (by rw [← HDL.out]; omega))]
    have t2 : decide ((dn : Int) < (k : Int)) = true := by simp; omega
    have t3 : decide (dn < k) = true := by simp; omega
    clear hneg
    go_wp2
    go_ret2
    exact seen_told HT.out (nil_holds _) HB0.out
  have t2 : decide ((dn : Int) < (k : Int)) = false := by simp; omega
  have t3 : decide (dn < k) = false := by simp; omega
  have hsum : IntKind.i64.wrap (e.base + (k : Int)) = e.base + k := by rw [IntKind.wrap_i64]; omega
  have HST : Hid (seenTo e k = match rowsC e.chains (e.base + k) with | none => ([], 10) | some r => (r, 0)) := by
    show _ = _
    unfold seenTo
    rw [if_neg (by rw [← HDL.out]; omega)]
    cases rowsC e.chains (e.base + (k : Int)) <;> rfl
  have PRA := hid (rowsC_calls e.chains cb cn cc (e.base + k) A HFIT.out HL.out.ch)
  clear hneg hbig
  cases hrc : rowsC e.chains (e.base + (k : Int)) with
  | none =>
    rw [hrc] at HST
    unfold RowsTold at PRA
    rw [hrc] at PRA
    clear hrc
    go_wp2_with fail
    refine PRA.out.mono ?_
    rintro x w1 ⟨b9, n9, c9, ok, rfl, rfl, h9, hb9⟩
    have HB1 := hid (below_deep HB0.out hb9)
    clear h9 hb9 PRA
    simp only [Option.isSome_none]
    go_wp2
    go_ret2
    exact seen_told HST.out (nil_holds _) HB1.out
  | some r =>
    rw [hrc] at HST
    unfold RowsTold at PRA
    rw [hrc] at PRA
    clear hrc
    go_wp2_with fail
    refine PRA.out.mono ?_
    rintro x w1 ⟨b9, n9, c9, ok, rfl, rfl, h9, hb9⟩
    have HB1 := hid (below_deep HB0.out hb9)
    have H9 : Hid (Holds w1 b9 n9 c9 r) := h9
    clear h9 hb9 PRA
    simp only [Option.isSome_some]
    go_wp2
    go_ret2
    exact seen_told HST.out H9.out HB1.out
end Go.Proofs.Ytdnafpenljdinad

namespace Go.Proofs.Ytdnafpenljdinad
open Go.RowKit

/-- What a key has that a deed names which needs nobody: it is made, and is what the deed sees. -/
theorem sees_bef {r0 : List Row} {D : List Deed3} {m : Nat} {dn : Nat → Bool} {b : ByteArray → Int} {e : Eng} (G : Good r0 D m dn b e) {p : Nat} (hp : m + p < D.length) (hn : needsE e p = []) {k : ByteArray} (hk : k ∈ keysD (e.deeds.getD p default)) :
    (before e.chains k (e.base + p)).made = true ∧ (before e.chains k (e.base + p)).has_ = isAt k (seesE e p) ∧ (before e.chains k (e.base + p)).n = num k (seesE e p) := by
  rw [G.deed] at hk
  have hm := (needs_nil G hp).1 hn k hk
  obtain ⟨e1, e2⟩ := (sees_is G hp hn).2 k hk
  obtain ⟨h1, h2⟩ := (G.seen (n := p) (by omega) k).yes hm
  rw [G.at_]
  exact ⟨hm, h1.trans e1.symm, h2.trans e2.symm⟩
/-- What Run made, by the keys of it, in the order of Writes. -/
def madeL (f : Bool) (m : Made) (W : List ByteArray) : List (ByteArray × Option Int) := if f = true then [] else vers m W
theorem keysOf_length (l : List (ByteArray × Option Int)) : (keysOf l).length = l.length := by simp [keysOf]
theorem keysOf_getD {l : List (ByteArray × Option Int)} {j : Nat} (h : j < l.length) : (keysOf l).getD j default = (l.getD j default).1 := by simp [keysOf, List.getD, h]
theorem made_some {R : List Row} {d : Deed3} {r : Nat → Int} {m : Made} {f : Bool} (hs : Srt R) (hd : RightDD d) (hx : exD R d = (r, m, f)) {j : Nat} (hj : j < (madeL f m d.2.1).length) {k : ByteArray} {o : Option Int} (hk : (madeL f m d.2.1).getD j default = (k, o)) : isAt k (doD R d) = o.isSome ∧ num k (doD R d) = o.getD 0 := by
  cases f with
  | true => exact absurd hj (Nat.not_lt_zero _)
  | false =>
    have hmem : (k, o) ∈ vers m d.2.1 := by
      rw [← hk]
      show _ ∈ vers m d.2.1
      have hj' : j < (vers m d.2.1).length := hj
      have e : (madeL false m d.2.1).getD j default = (vers m d.2.1)[j] := by simp [madeL, List.getD, hj']
      rw [e]
      exact List.getElem_mem hj'
    have hm : m k = some o := (vers_mem hmem).2
    rw [doD_at hs hd, doD_num hs hd, hx]
    simp only [Bool.false_eq_true, if_false]
    unfold isThere look
    rw [hm]
    cases o <;> exact ⟨rfl, rfl⟩
theorem made_none {R : List Row} {d : Deed3} {r : Nat → Int} {m : Made} {f : Bool} (hs : Srt R) (hd : RightDD d) (hx : exD R d = (r, m, f)) {k : ByteArray} (hw : k ∈ d.2.1) (hk : has (keysOf (madeL f m d.2.1)) k = false) : isAt k (doD R d) = isAt k R ∧ num k (doD R d) = num k R := by
  rw [doD_at hs hd, doD_num hs hd, hx]
  cases f with
  | true => exact ⟨rfl, rfl⟩
  | false =>
    simp only [Bool.false_eq_true, if_false]
    have hm : m k = none := by
      cases hm : m k with
      | none => rfl
      | some o =>
        have : k ∈ keysOf (madeL false m d.2.1) := by
          refine List.mem_map.2 ⟨(k, o), ?_, rfl⟩
          show (k, o) ∈ vers m d.2.1
          unfold vers
          rw [List.mem_filterMap]
          exact ⟨k, hw, by rw [hm]; rfl⟩
        rw [has_iff.2 this] at hk; cases hk
    unfold isThere look
    rw [hm]
    exact ⟨rfl, rfl⟩
theorem verCell_is (o : Option Int) : verCell o = [.int .i64 0, .bool true, .bool o.isSome, .int .i64 (o.getD 0)] := by cases o <;> rfl

/-! ### How a deed is hindered -/
def hindE (e : Eng) (at_ : Int) : Int :=
  if at_ < 0 ∨ (e.deeds.length : Int) ≤ at_ then 6
  else if e.state.getD at_.toNat 0 = 1 then 11
  else if needsE e at_.toNat ≠ [] then 10
  else 0
theorem Good.state_is {r0 : List Row} {D : List Deed3} {m : Nat} {dn : Nat → Bool} {b : ByteArray → Int} {e : Eng} (G : Good r0 D m dn b e) {p : Nat} (hp : m + p < D.length) : e.state.getD p 0 = if dn (m + p) = true then 1 else 0 := by
  rw [G.state]
  have h : p < D.length - m := by omega
  simp [List.getD, h]
theorem hind_ready {r0 : List Row} {D : List Deed3} {m : Nat} {dn : Nat → Bool} {b : ByteArray → Int} {e : Eng} (G : Good r0 D m dn b e) {p : Nat} (hp : p < e.deeds.length) : (decide (hindE e p = 0)) = (decide (e.state.getD p 0 = 0) && (needsE e p).isEmpty) := by
  have hpD : m + p < D.length := by rw [G.len] at hp; omega
  unfold hindE
  rw [if_neg (by omega), Int.toNat_natCast, G.state_is hpD]
  cases dn (m + p) <;> cases needsE e p <;> simp
theorem ready_lt {e : Eng} {p : Nat} (h : p ∈ readyE e) : p < e.deeds.length := List.mem_range.1 (List.mem_filter.1 h).1
theorem ready_needs {e : Eng} {p : Nat} (h : p ∈ readyE e) : needsE e p = [] := by
  have := (List.mem_filter.1 h).2
  simp at this
  exact this.2
theorem ready_of_hind {r0 : List Row} {D : List Deed3} {m : Nat} {dn : Nat → Bool} {b : ByteArray → Int} {e : Eng} (G : Good r0 D m dn b e) {p : Nat} (hp : p < e.deeds.length) (h : hindE e p = 0) : p ∈ readyE e := by
  unfold readyE
  refine List.mem_filter.2 ⟨List.mem_range.2 hp, ?_⟩
  rw [← hind_ready G hp, h]; rfl
/-- The places of deeds that are ready, up to one. -/
def readyTo (e : Eng) (j : Nat) : List Nat := (List.range j).filter (fun p => decide (hindE e p = 0))
theorem readyTo_succ (e : Eng) (j : Nat) : readyTo e (j + 1) = readyTo e j ++ if hindE e j = 0 then [j] else [] := by
  unfold readyTo
  rw [List.range_succ, List.filter_append]
  congr 1
  simp only [List.filter_cons, List.filter_nil, decide_eq_true_eq]
theorem readyTo_len (e : Eng) (j : Nat) : (readyTo e j).length ≤ j := by
  have := List.length_filter_le (fun p : Nat => decide (hindE e p = 0)) (List.range j)
  rw [List.length_range] at this
  exact this
theorem ready_to {r0 : List Row} {D : List Deed3} {m : Nat} {dn : Nat → Bool} {b : ByteArray → Int} {e : Eng} (G : Good r0 D m dn b e) : readyTo e e.deeds.length = readyE e := by
  unfold readyTo readyE
  refine List.filter_congr fun p hp => ?_
  exact hind_ready G (List.mem_range.1 hp)
theorem ready_at {r0 : List Row} {D : List Deed3} {m : Nat} {dn : Nat → Bool} {b : ByteArray → Int} {e : Eng} (G : Good r0 D m dn b e) {p : Nat} (h : p ∈ readyE e) : m + p < D.length ∧ dn (m + p) = false := by
  have h1 := ready_lt h
  have hpD : m + p < D.length := by rw [G.len] at h1; omega
  refine ⟨hpD, ?_⟩
  have h2 := (List.mem_filter.1 h).2
  simp only [Bool.and_eq_true, decide_eq_true_eq] at h2
  have h3 := h2.1
  rw [G.state_is hpD] at h3
  cases hd : dn (m + p) with
  | false => rfl
  | true => rw [hd] at h3; cases h3
end Go.Proofs.Ytdnafpenljdinad

namespace Go.Proofs.Ytdnafpenljdinad
open Go.RowKit

set_option maxHeartbeats 4000000 in
set_option maxRecDepth 100000 in
theorem refSeen_calls {r0 : List Row} {D : List Deed3} {m : Nat} {dq : Nat → Bool} {bq : ByteArray → Int} {e : Eng} (G : Good r0 D m dq bq e) (hD : D.length ≤ 1954687338211) (at_ : Int) (v : Value) (w : World) (hv : EngIn w v e) :
    Calls Try.prog 7 #[v, .int .i64 at_] w fun x w' => SeenTold w w' e at_ x := by
  obtain ⟨cb, cn, cc, db, dn, dc, sb, sn, sc, eb, en, ec, rfl, hl⟩ := hv
  have hle := G.le
  have hz0 : 0 ≤ e.base := by rw [G.base]; omega
  have hz1 : e.base ≤ 1954687338211 := by rw [G.base]; omega
  have HDL := hid hl.de.len
  have hdn : dn ≤ 1954687338211 := by rw [hl.de.len, G.len]; omega
  have HFIT := hid (G.fit hD)
  have HBX := hid (Box.new w #[.slice cb cn cc, .slice db dn dc, .slice sb sn sc, .slice eb en ec, .int .i64 e.base] 32)
  have HB0 := hid (grew w (.cells #[.slice cb cn cc, .slice db dn dc, .slice sb sn sc, .slice eb en ec, .int .i64 e.base] 32))
  have HL := hid (hl.below HB0.out)
  clear G hD hl hle
  go_enter Try.func7, Try.ntmps7
  go_upto_region 1 with fail
  generalize w.alloc (.cells #[.slice cb cn cc, .slice db dn dc, .slice sb sn sc, .slice eb en ec, .int .i64 e.base] 32) = A at *
  obtain ⟨x0, x1, x2, x3, x4⟩ := HBX.out.cells5
  have hxl : w.heap.size < A.heap.size := HBX.out.lt
  by_cases hneg : at_ < 0
  · have HT : Hid (seenTo e at_ = ([], 6)) := by show _ = _; unfold seenTo; rw [if_pos (.inl hneg)]
    have t1 : decide (at_ < 0) = true := by simpa using hneg
    clear hneg
    go_wp2
    go_ret2
    exact seen_told HT.out (nil_holds _) HB0.out
  obtain ⟨k, rfl⟩ : ∃ k : Nat, at_ = (k : Int) := ⟨at_.toNat, by omega⟩
  have t1 : decide ((k : Int) < 0) = false := by simp
  by_cases hbig : dn < k
  · have HT : Hid (seenTo e k = ([], 6)) := by show _ = _; unfold seenTo; rw [if_pos (.inr (by rw [← HDL.out]; omega))]
    have t2 : decide ((dn : Int) < (k : Int)) = true := by simp; omega
    have t3 : decide (dn < k) = true := by simp; omega
    clear hneg
    go_wp2
    go_ret2
    exact seen_told HT.out (nil_holds _) HB0.out
  have t2 : decide ((dn : Int) < (k : Int)) = false := by simp; omega
  have t3 : decide (dn < k) = false := by simp; omega
  have hsum : IntKind.i64.wrap (e.base + (k : Int)) = e.base + k := by rw [IntKind.wrap_i64]; omega
  have HST : Hid (seenTo e k = match rowsC e.chains (e.base + k) with | none => ([], 10) | some r => (r, 0)) := by
    show _ = _
    unfold seenTo
    rw [if_neg (by rw [← HDL.out]; omega)]
    cases rowsC e.chains (e.base + (k : Int)) <;> rfl
  have PRA := hid (refRowsAt_calls e.chains cb cn cc (e.base + k) A HFIT.out HL.out.ch)
  clear hneg hbig
  cases hrc : rowsC e.chains (e.base + (k : Int)) with
  | none =>
    rw [hrc] at HST
    unfold RowsTold at PRA
    rw [hrc] at PRA
    clear hrc
    go_wp2_with fail
    refine PRA.out.mono ?_
    rintro x w1 ⟨b9, n9, c9, ok, rfl, rfl, h9, hb9⟩
    have HB1 := hid (below_deep HB0.out hb9)
    clear h9 hb9 PRA
    simp only [Option.isSome_none]
    go_wp2
    go_ret2
    exact seen_told HST.out (nil_holds _) HB1.out
  | some r =>
    rw [hrc] at HST
    unfold RowsTold at PRA
    rw [hrc] at PRA
    clear hrc
    go_wp2_with fail
    refine PRA.out.mono ?_
    rintro x w1 ⟨b9, n9, c9, ok, rfl, rfl, h9, hb9⟩
    have HB1 := hid (below_deep HB0.out hb9)
    have H9 : Hid (Holds w1 b9 n9 c9 r) := h9
    clear h9 hb9 PRA
    simp only [Option.isSome_some]
    go_wp2
    go_ret2
    exact seen_told HST.out H9.out HB1.out

/-- Go of one that is ready. -/
theorem goTo_at {e : Eng} {p : Nat} (h : p ∈ readyE e) : goTo e p = (goE e p, 0) := by
  have h1 := ready_lt h
  have h2 := ready_needs h
  have h3 := (List.mem_filter.1 h).2
  simp only [Bool.and_eq_true, decide_eq_true_eq] at h3
  unfold goTo
  rw [if_neg (by omega), Int.toNat_natCast, h3.1, if_neg (by decide), if_neg (by rw [h2]; simp)]

end Go.Proofs.Ytdnafpenljdinad
