/-
  New, Keys and Needs of the program's plans, walked.
-/
import Derived.Test.YtmfieleonhgeoacRefNeeds
import Derived.Test.YtmfieleonhgeoacRefNew
import Derived.Test.YtmfieleonhgeoacChainRows
import Derived.Test.YtmfieleonhgeoacPlanLib
import Derived.Deep.DeepCutAuto
import Derived.Deep.RegionWith
namespace Go.Proofs.Ytmfieleonhgeoac
open Go.RowKit

theorem planNew_results (tmps : Array Value) (b : Nat) (w : World) {a0 a1 a2 a3 : Option Addr} {n0 n1 n2 n3 c0 c1 c2 c3 : Nat} {z : Int} (h : tmps.getD 2 undef = .pointer (some ⟨b, 0, none⟩)) (hb : Box w b #[.slice a0 n0 c0, .slice a1 n1 c1, .slice a2 n2 c2, .slice a3 n3 c3, .int .i64 z] 42) :
    (results Try.f13 tmps).run Try.prog w = .ok (.agg #[.slice a0 n0 c0, .slice a1 n1 c1, .slice a2 n2 c2, .slice a3 n3 c3, .int .i64 z]) w := by
  have h' : tmps[2]?.getD undef = .pointer (some ⟨b, 0, none⟩) := by simpa using h
  obtain ⟨k0, k1, k2, k3, k4⟩ := hb.cells5
  simp [results, Try.results13, go_sem, h', k0, k1, k2, k3, k4]

set_option maxHeartbeats 4000000 in
set_option maxRecDepth 100000 in
theorem planNew_calls (l : List Row) (base : Option Addr) (n c : Nat) (w : World) (hr : Right l) (hsm : Small l) (ha : Holds w base n c l) :
    Calls Try.prog 13 #[.slice base n c] w fun x w' => EngTold w w' (newE l) x := by
  have HBX := hid (Box.new w #[.slice none 0 0, .slice none 0 0, .slice none 0 0, .slice none 0 0, .int .i64 0] 42)
  have HB0 := hid (grew w (.cells #[.slice none 0 0, .slice none 0 0, .slice none 0 0, .slice none 0 0, .int .i64 0] 42))
  have PO := hid (ofC_calls l base n c _ hr hsm (ha.below HB0.out))
  clear ha hr hsm
  go_enter Try.func13, Try.ntmps13
  go_wp2_with fail
  refine PO.out.mono ?_
  rintro x w1 ⟨b1, n1, c1, rfl, h1, hb1⟩
  have HX1 := hid (HBX.out.below hb1)
  obtain ⟨x0, x1, x2, x3, x4⟩ := HX1.out.cells5
  obtain ⟨f0, f1, f2, f3, f4⟩ := HX1.out.free5
  have hxl : w.heap.size < w1.heap.size := HX1.out.lt
  have HLI : Hid (EngLies w1 b1 n1 c1 none 0 0 none 0 0 none 0 0 (newE l)) :=
    ⟨h1, ⟨rfl, ⟨Nat.le_refl _, Nat.zero_le _, fun _ => rfl⟩, .inl rfl⟩, Lies.none _ _, Lies.none _ _, Kind.none _ _, Kind.none _ _, Kind.none _ _⟩
  have HLF := hid (HLI.out.put HX1.out (put5_off w1 w.heap.size (.slice b1 n1 c1) (.slice none 0 0) (.slice none 0 0) (.slice none 0 0) (.int .i64 0)))
  have HBF := hid (put5_box HX1.out (.slice b1 n1 c1) (.slice none 0 0) (.slice none 0 0) (.slice none 0 0) (.int .i64 0))
  have HBE := hid (put5_below (below_deep HB0.out hb1) (Nat.le_refl _) (.slice b1 n1 c1) (.slice none 0 0) (.slice none 0 0) (.slice none 0 0) (.int .i64 0))
  unfold put5 at HLF HBF HBE
  clear h1 hb1 PO
  go_wp2
  (try simp only [Exit.inBlock, Exit.then])
  refine bodyPost_ret (planNew_results _ w.heap.size _ rfl HBF.out) rfl ?_
  exact ⟨_, rfl, ⟨_, _, _, _, _, _, _, _, _, _, _, _, rfl, HLF.out⟩, HBE.out⟩

theorem filter_snoc (l : List ByteArray) (f : ByteArray → Bool) {j : Nat} (h : j < l.length) : (l.take (j + 1)).filter f = (l.take j).filter f ++ if f (l.getD j default) = true then [l.getD j default] else [] := by
  rw [take_snoc_getD h, List.filter_append]
  congr 1
  by_cases hf : f (l.getD j default) = true
  · rw [if_pos hf, List.filter_cons, if_pos hf]; rfl
  · rw [if_neg hf, List.filter_cons, if_neg hf]; rfl

set_option maxHeartbeats 4000000 in
set_option maxRecDepth 100000 in
theorem planKeys_calls (d : Deed3) (rb : Option Addr) (rn rc : Nat) (wb : Option Addr) (wn wc : Nat) (cb : Option Addr) (cn cc : Nat) (w : World) (hd : DeedIn w rb rn rc wb wn wc cb cn cc d.1 d.2.1 d.2.2) (hR : RightDD d) :
    Calls Try.prog 23 #[.agg #[.slice rb rn rc, .slice wb wn wc, .slice cb cn cc]] w fun e w' => ∃ b n c, e = .returned (.slice b n c) ∧ Texts w' b n c (keysD d) ∧ Below w.heap.size w w' := by
  have hrn := Texts.count hd.tr
  have hwn := Texts.count hd.tw
  have hr5 : rn ≤ 5 := by rw [hrn]; exact wKeys_len hR.r
  have hw5 : wn ≤ 5 := by rw [hwn]; exact wKeys_len hR.w
  have HFIN := hid (keysP_is (wKeys_nodup hR.r) (wKeys_nodup hR.w))
  have HKP : Hid (keysP d = d.1 ++ d.2.1.filter (fun k => !has d.1 k)) := rfl
  have HBX := hid (Box.new w #[.slice rb rn rc, .slice wb wn wc, .slice cb cn cc] 51)
  have HBA := hid (grew w (.cells #[.slice rb rn rc, .slice wb wn wc, .slice cb cn cc] 51))
  have HD := hid (hd.below HBA.out)
  have HRN := hid hrn
  have HWN := hid hwn
  have N1 : Hid ((0 + rn) * 16 ≤ 140737488355328) := by show _ ≤ _; omega
  have O1 := hid (strs_one d.1)
  clear hd hrn hwn hR
  go_enter Try.func23, Try.ntmps23
  go_upto_region 1 with fail
  generalize w.alloc (.cells #[.slice rb rn rc, .slice wb wn wc, .slice cb cn cc] 51) = A at *
  have x0 := HBX.out.cell 0 _ rfl
  have hxl : w.heap.size < A.heap.size := HBX.out.lt
  go_wp2_with (at_builtin; refine wpList_onto _ rfl _ _ 48 9 1 16 _ Try.underlying48 strInfo rfl (by decide) (by decide) rfl A.heap.size _ 0 [] rfl (World.ownsRow_nil _ _ _ _) rb rn rc (strs d.1) rfl HD.out.tr O1.out N1.out (Nat.le_refl _) ?_)
  intro v1 w1 hown1 hg1
  have HB1 : Hid (Below A.heap.size A w1) := (Below.refl _ _).grown hg1 (Nat.le_refl _) (fun k hk => by cases hk)
  have HO1 : Hid (w1.ownsRow A.heap.size 9 1 v1 rn (strs d.1)) := by
    show World.ownsRow _ _ _ _ _ _ _
    simpa using hown1
  have x1 := (HBX.out.below HB1.out).cell 1 _ rfl
  have hx1 : w.heap.size < w1.heap.size := (HBX.out.below HB1.out).lt
  clear hown1 hg1 x0 N1 O1
  go_wp2
  go_loopw [3, 12] (fun v i wr => ∃ j r : Nat, j ≤ wn ∧ r ≤ rn + j ∧ i = .int .i64 j ∧ Hid ((d.1 ++ (d.2.1.take j).filter (fun k => !has d.1 k)).length = r) ∧ Hid (wr.ownsRow A.heap.size 9 1 v r (strs (d.1 ++ (d.2.1.take j).filter (fun k => !has d.1 k)))) ∧ Hid (Below A.heap.size A wr)) (fun _ i _ => wn - (intOf i).toNat)
  case atStart => exact ⟨0, rn, Nat.zero_le _, by omega, rfl, (by show _ = _; simp [HRN.out]), (by show World.ownsRow _ _ _ _ _ _ _; simpa using HO1.out), HB1⟩
  case round =>
    obtain ⟨j, r, hj, hr, rfl, HR, HO, HBR⟩ := hrel
    by_cases hlt : j < wn
    · have hjl : j < d.2.1.length := by rw [← HWN.out]; exact hlt
      have hi : (j : Int) < (wn : Int) := by omega
      obtain ⟨b2, o2, rfl, hr2⟩ : ∃ b2 o2, wb = some ⟨b2, o2, none⟩ ∧ Run wr b2 o2 (strs d.2.1) := by
        rcases (HD.out.tw.below (by decide) HBR.out).run with h | h
        · omega
        · exact h
      have c2 := hr2 j _ (strs_at hjl)
      have hb2 : b2 < wr.heap.size := by simpa using World.block_lt_of_cell? _ _ c2
      have x0 := (HBX.out.below HBR.out).cell 0 _ rfl
      have hxr : w.heap.size < wr.heap.size := (HBX.out.below HBR.out).lt
      have HFS := hid (filter_snoc d.2.1 (fun k => !has d.1 k) hjl)
      have PC := hid (contains_calls d.1 rb rn rc (d.2.1.getD j default) wr (HD.out.tr.below (by decide) HBR.out))
      clear hr2
      generalize (d.2.1.take j).filter (fun k => !has d.1 k) = F at *
      generalize d.2.1.getD j default = k at *
      go_wp2_with fail
      refine PC.out.mono ?_
      rintro x w2 ⟨rfl, rfl⟩
      cases hh : has d.1 k with
      | true =>
        have HF : Hid ((d.2.1.take (j + 1)).filter (fun k => !has d.1 k) = F) := by show _ = _; rw [HFS.out, hh]; simp
        clear hh PC
        go_wp2
        go_roundw
        case rel => exact ⟨j + 1, r, by omega, by omega, by go_num, (by show _ = _; rw [HF.out]; exact HR.out), (by rw [HF.out]; exact HO), HBR⟩
        case measure => simp [intOf]; omega
      | false =>
        have HF : Hid ((d.2.1.take (j + 1)).filter (fun k => !has d.1 k) = F ++ [k]) := by show _ = _; rw [HFS.out, hh]; simp
        clear hh PC
        have HC1 := hid (lies_one wr #[.string k] 9 1 rfl)
        have HOA := hid (HO.out.alloc (.cells #[.string k] 9))
        have HBY : Hid ((r + 1) * 16 ≤ 140737488355328) := by show _ ≤ _; omega
        have HSZ := hid (step_box HBR.out (.cells #[.string k] 9))
        go_wp2_with (at_builtin; refine wpList_onto _ rfl _ _ 48 9 1 16 _ Try.underlying48 strInfo rfl (by decide) (by decide) rfl A.heap.size _ r _ rfl HOA.out _ 1 _ _ rfl HC1.out (strs_one [k]) HBY.out HSZ.out.size ?_)
        intro v3 w3 hown3 hg3
        have HB3 := hid (step_row HSZ.out HOA.out hg3)
        have HO3 : Hid (w3.ownsRow A.heap.size 9 1 v3 (r + 1) (strs (d.1 ++ (F ++ [k])))) := by
          show World.ownsRow _ _ _ _ _ _ _
          rw [← List.append_assoc, strs_append (d.1 ++ F)]; exact hown3
        clear hown3 hg3
        go_wp2
        go_roundw
        case rel => exact ⟨j + 1, r + 1, by omega, by omega, by go_num, (by show _ = _; rw [HF.out, ← List.append_assoc, List.length_append, HR.out]; rfl), (by rw [HF.out]; exact HO3), HB3⟩
        case measure => simp [intOf]; omega
    · obtain rfl : j = wn := by omega
      rw [List.take_of_length_le (by rw [← HWN.out]; exact Nat.le_refl _), ← HKP.out, HFIN.out] at HO
      obtain ⟨ob, oc, rfl, hol⟩ := Lies.owned HO.out
      have HOL : Hid (Texts wr ob r oc (keysD d)) := hol
      clear hol
      go_wp2
      go_ret
      exact ⟨_, _, _, rfl, HOL.out, below_deep HBA.out HBR.out⟩

set_option maxHeartbeats 1000000 in
set_option maxRecDepth 100000 in
theorem number_calls6 (cb : Option Addr) (cn cc : Nat) (db : Option Addr) (dn dc : Nat) (sb : Option Addr) (sn sc : Nat) (eb : Option Addr) (en ec : Nat) (bs at_ : Int) (w : World) (h0 : 0 ≤ bs) (h1 : bs ≤ 4000000) (h2 : 0 ≤ at_) (h3 : at_ ≤ 4000000) :
    Calls Try.prog 45 #[.agg #[.slice cb cn cc, .slice db dn dc, .slice sb sn sc, .slice eb en ec, .int .i64 bs], .int .i64 at_] w fun x w' => x = .returned (.int .i64 (bs + at_)) ∧ Below w.heap.size w w' := by
  have HB := hid (grew w (.cells #[.slice cb cn cc, .slice db dn dc, .slice sb sn sc, .slice eb en ec, .int .i64 bs] 42))
  have hs : IntKind.i64.wrap (bs + at_) = bs + at_ := by rw [IntKind.wrap_i64]; omega
  go_enter Try.func45, Try.ntmps45
  go_wp2
  go_ret
  exact ⟨rfl, HB.out⟩
end Go.Proofs.Ytmfieleonhgeoac
