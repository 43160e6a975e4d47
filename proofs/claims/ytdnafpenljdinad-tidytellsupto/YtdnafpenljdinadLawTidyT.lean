/-
  Wrong of the program tells the first thing that is wrong with any rows.
  The closed fact that the statements of chapter 1 ask first is so.
  SameRows of the document's answer tells whether two lists of rows are one.
  The walk of the statement RowsApart: the call returns true and changes nothing that was there.
  The walk of the statement RowsTells: the call returns true and changes nothing that was there.
  The walk of the statement TidyTells: the call returns true and changes nothing that was there.
-/
import Derived.Test.YtdnafpenljdinadConcat
import Derived.BigQuiet
import Derived.Deep.QuietTactic
import Derived.Test.YtdnafpenljdinadPut
import Derived.Test.YtdnafpenljdinadChecked
import Derived.WalkKit
import Derived.WalkSpells
import Derived.WalkLawsBesides
import Derived.Below
import Derived.LoopTactic
import Derived.Outline
import Derived.Test.YtdnafpenljdinadRef
import Derived.Test.YtdnafpenljdinadRefPut
import Derived.Test.YtdnafpenljdinadRefBuild
import Derived.Test.YtdnafpenljdinadRefSameE
import Derived.Test.YtdnafpenljdinadRefFin
import Derived.Test.YtdnafpenljdinadTidyClear
namespace Go.Proofs.Ytdnafpenljdinad
open Go.RowKit

end Go.Proofs.Ytdnafpenljdinad

namespace Go.Proofs.Ytdnafpenljdinad
open Go.RowKit

/-- The keys a, b and abc. -/
def kA : ByteArray := ⟨#[97]⟩
def kB : ByteArray := ⟨#[98]⟩
def kC : ByteArray := ⟨#[97, 98, 99]⟩
/-- The rows that are made. -/
def rAB : List Row := [(kA, 1), (kB, 2)]

theorem less_ab : less kA kB = true := by
  rw [less_def, ByteArray.toList_eq, ByteArray.toList_eq]; decide
theorem less_ba : less kB kA = false := less_asymm less_ab
theorem put_b : ins kB 2 [] = [(kB, 2)] := rfl
theorem put_ab : ins kA 1 [(kB, 2)] = rAB := by simp [ins, less_ab, less_ba, rAB]
theorem srt_ab : Srt rAB := by simp [Srt, rAB, less_ab]
theorem drop_ab : del kA rAB = [(kB, 2)] := by simp [del, rAB, less_irrefl]
theorem num_ab : num kB rAB = 2 := by simp [num, rAB, less_ab, less_irrefl]
theorem isAt_ab : isAt kB rAB = true := by simp [isAt, rAB, less_ab, less_irrefl]
theorem key_a : keyB kA = true := by decide
theorem key_b : keyB kB = true := by decide
theorem key_c : keyB kC = true := by decide
theorem wrong_ab : wrong rAB = 0 := by
  refine right_wrong ⟨srt_ab, fun x hx => ?_, fun x hx => ?_, fun x hx => ?_⟩ <;> (simp [rAB] at hx; rcases hx with rfl | rfl <;> first | exact key_a | exact key_b | decide)
theorem small_ab : Small rAB := fun x hx => by
  simp [rAB] at hx; rcases hx with rfl | rfl <;> decide

end Go.Proofs.Ytdnafpenljdinad

namespace Go.Proofs.Ytdnafpenljdinad
open Go.RowKit

set_option maxHeartbeats 400000 in
theorem same_calls (l : List Row) (ba bb : Option Addr) (ca cb : Nat) (w : World) (hl : l.length ≤ maxLen) (ha : Seg w ba l) (hb : Seg w bb l) :
    Calls Try.prog 11 #[.slice ba l.length ca, .slice bb l.length cb] w fun e w' => e = .returned (.bool true) ∧ Below w.heap.size w w' := by
  unfold maxLen at hl
  by_cases h0 : l = []
  · subst h0
    go_enter Try.func11, Try.ntmps11
    go_wp2
    go_loop [13] (fun i => i = .int .i64 0) (fun _ => 0)
    case atStart => rfl
    case round =>
      obtain rfl := hrel
      go_wp2
      go_ret
      exact ⟨rfl, Below.refl _ _⟩
  rcases ha with h | ⟨b1, o1, rfl, h1⟩
  · exact absurd h h0
  rcases hb with h | ⟨b2, o2, rfl, h2⟩
  · exact absurd h h0
  clear h0
  obtain ⟨n, hn⟩ : ∃ n, n = l.length := ⟨_, rfl⟩
  rw [← hn] at hl ⊢
  have HN : Hid (n = l.length) := hn
  clear hn
  have H1 : Hid (Cells w b1 o1 l) := h1
  have H2 : Hid (Cells w b2 o2 l) := h2
  clear h1 h2
  go_enter Try.func11, Try.ntmps11
  go_wp2
  go_loopw [13] (fun i wr => ∃ k : Nat, k ≤ n ∧ i = .int .i64 k ∧ ∃ q, wr = w.drewN q) (fun i _ => n - (intOf i).toNat)
  case atStart => exact ⟨0, Nat.zero_le _, rfl, 0, rfl⟩
  case round =>
    obtain ⟨k, hk, rfl, q, rfl⟩ := hrel
    by_cases hlt : k < n
    · obtain ⟨c1, d1⟩ := H1.out k (by rw [← HN.out]; exact hlt)
      obtain ⟨c2, d2⟩ := H2.out k (by rw [← HN.out]; exact hlt)
      generalize (l.getD k default).1 = kk at *
      generalize (l.getD k default).2 = nn at *
      have hi : (k : Int) < (n : Int) := by omega
      go_wp2
      go_quiet (fail)
      go_wp2
      go_roundw
      case rel => exact ⟨k + 1, by omega, by go_num, _, rfl⟩
      case measure => simp [intOf]; omega
    · go_wp2
      go_ret
      exact ⟨rfl, below_drewN (Below.refl _ _) q⟩
end Go.Proofs.Ytdnafpenljdinad

namespace Go.Proofs.Ytdnafpenljdinad
open Go.RowKit

theorem same_holds (l : List Row) (ba bb : Option Addr) (na nb ca cb : Nat) (w : World) (ha : Holds w ba na ca l) (hb : Holds w bb nb cb l) :
    Calls Try.prog 11 #[.slice ba na ca, .slice bb nb cb] w fun e w' => e = .returned (.bool true) ∧ Below w.heap.size w w' := by
  have h1 := ha.len
  have h2 := hb.len
  subst h1 h2
  exact same_calls l ba bb ca cb w (Nat.le_trans ha.hdr.le ha.hdr.max) ha.seg hb.seg

theorem ins_bound {k : ByteArray} {m : Int} {l : List Row} {n n' : Nat} (h : n = l.length) (h' : n' = (ins k m l).length) : n' ≤ n + 1 := by
  have := ins_length k m l; omega
theorem del_bound {k : ByteArray} {l : List Row} {n n' : Nat} (h : n = l.length) (h' : n' = (del k l).length) : n' ≤ n := by
  have := del_length k l; omega

end Go.Proofs.Ytdnafpenljdinad

namespace Go.Proofs.Ytdnafpenljdinad
open Go.RowKit

theorem refWrong_holds (l : List Row) (ba : Option Addr) (na ca : Nat) (w : World) (hsm : Small l) (ha : Holds w ba na ca l) :
    Calls Try.prog 4 #[.slice ba na ca] w fun e w' => e = .returned (.int .i64 (wrong l)) ∧ Below w.heap.size w w' := by
  have h1 := ha.len
  subst h1
  exact refWrong_calls l ba ca w (Nat.le_trans ha.hdr.le ha.hdr.max) hsm ha.seg

end Go.Proofs.Ytdnafpenljdinad

namespace Go.Proofs.Ytdnafpenljdinad
open Go.RowKit

theorem keep5 {A w1 w2 : World} {b : Nat} {x0 x1 x2 x3 x4 : Value}
    (h : w1.cell? ⟨b, 0, none⟩ = some x0 ∧ w1.cell? ⟨b, 1, none⟩ = some x1 ∧ w1.cell? ⟨b, 2, none⟩ = some x2 ∧ w1.cell? ⟨b, 3, none⟩ = some x3 ∧ w1.cell? ⟨b, 4, none⟩ = some x4 ∧ Below A.heap.size A w1) (hb : Below w1.heap.size w1 w2) :
    w2.cell? ⟨b, 0, none⟩ = some x0 ∧ w2.cell? ⟨b, 1, none⟩ = some x1 ∧ w2.cell? ⟨b, 2, none⟩ = some x2 ∧ w2.cell? ⟨b, 3, none⟩ = some x3 ∧ w2.cell? ⟨b, 4, none⟩ = some x4 ∧ Below A.heap.size A w2 := by
  obtain ⟨h0, h1, h2, h3, h4, hz⟩ := h
  exact ⟨kept_cell hb h0, kept_cell hb h1, kept_cell hb h2, kept_cell hb h3, kept_cell hb h4, below_deep hz hb⟩
theorem held5 {p0 p1 p2 p3 p4 : Prop} {B : Nat} {A w' : World} (h : p0 ∧ p1 ∧ p2 ∧ p3 ∧ p4 ∧ Below B A w') : Below B A w' := h.2.2.2.2.2

set_option maxHeartbeats 8000000 in
set_option maxRecDepth 100000 in
theorem tidyTells_calls (l : List Row) (BS : List (List Deed3)) (Pl : List Int) (at_ : Int) (lb : Option Addr) (ln lc : Nat) (bb : Option Addr) (bn bc : Nat) (pb : Option Addr) (pn pc : Nat) (w : World)
    (hh : Holds w lb ln lc l) (hsm : Small l) (hbs : BatchesIn w bb bn bc BS) (hp : Ints w pb pn pc Pl) (hN : manyB BS ≤ 1048576) :
    Calls Try.prog 3 #[.slice lb ln lc, .slice bb bn bc, .slice pb pn pc, .int .i64 at_] w fun e w' => e = .returned (.bool true) ∧ Below w.heap.size w w' := by
  have HH := hid hh
  have HSM := hid hsm
  have HBS := hid hbs
  have HP := hid hp
  have HN := hid hN
  have HWR := hid (refWrong_holds l lb ln lc w hsm hh)
  clear hh hsm hbs hp hN
  go_enter Try.func3, Try.ntmps3
  go_wp2_with fail
  refine HWR.out.mono ?_
  rintro e w1 ⟨rfl, hb1⟩
  have HB1 := hid hb1
  clear hb1 HWR
  by_cases hz : wrong l = 0
  · rw [hz]
    have HR := hid (right_of hz)
    clear hz
    have RB := hid (refBuild_calls l BS Pl lb ln lc bb bn bc pb pn pc w1 HR.out HSM.out (HH.out.below HB1.out) (HBS.out.below HB1.out) (HP.out.below (by decide) HB1.out) (Nat.le_trans HN.out (by decide)))
    go_wp2_with fail
    refine RB.out.mono ?_
    rintro x w5 ⟨v5, D, m, dq, bq, e, rfl, G, hD, hv5, hb5⟩
    obtain ⟨cb, cn, cc, db, dn, dc, sb, sn, sc, eb, en, ec, rfl, hl5⟩ := hv5
    have HGD := hid G
    have HDN := hid (Nat.le_trans hD HN.out)
    have HGE := hid (grew w5 (.cells #[.slice cb cn cc, .slice db dn dc, .slice sb sn sc, .slice eb en ec, .int .i64 e.base] 32))
    have HBE := hid (Box.new w5 #[.slice cb cn cc, .slice db dn dc, .slice sb sn sc, .slice eb en ec, .int .i64 e.base] 32)
    have HLE := hid (hl5.below HGE.out)
    have HB5 := hid (below_deep HB1.out (below_deep hb5 HGE.out))
    clear G hD hl5 hb5 RB
    go_upto_region 4 with fail
    generalize w5.alloc (.cells #[.slice cb cn cc, .slice db dn dc, .slice sb sn sc, .slice eb en ec, .int .i64 e.base] 32) = A5 at *
    generalize w5.heap.size = be at *
    have HFIT := hid (HGD.out.fit (by have := HDN.out; omega))
    have HFEW := hid (HGD.out.few (by have := HDN.out; omega))
    have hcn : cn ≤ 387420489 := by rw [HLE.out.ch.len]; exact HFIT.out.count
    have HCL := hid HLE.out.ch.len
    obtain ⟨x0, x1, x2, x3, x4⟩ := HBE.out.cells5
    have hel : be < A5.heap.size := HBE.out.lt
    go_wp2
    go_loopw [10, 27] (fun s i wr => ∃ j t : Nat, j ≤ cn ∧ t ≤ j * 4000003 ∧ i = .int .i64 j ∧ s = .int .i64 t ∧ Hid (t = sizeC (e.chains.take j)) ∧ Hid (Below A5.heap.size A5 wr)) (fun _ i _ => cn - (intOf i).toNat)
    case atStart => exact ⟨0, 0, Nat.zero_le _, Nat.zero_le _, rfl, rfl, rfl, Below.refl _ _⟩
    case round =>
      obtain ⟨j, t, hj, htj, rfl, rfl, HT, HBR⟩ := hrel
      by_cases hlt : j < cn
      · have hjl : j < e.chains.length := by rw [← HCL.out]; exact hlt
        have hi : (j : Int) < (cn : Int) := by omega
        rcases (HLE.out.ch.below HBR.out).run with h | ⟨b, o, rfl, hrun⟩
        · omega
        obtain ⟨vb, vn, vc, c0, c1, hvv, hkz⟩ := hrun j hlt
        have hbw : b < wr.heap.size := by simpa using World.block_lt_of_cell? _ _ c0
        have hfew := HFEW.out _ (memC hjl)
        have hvn := Vers.count hvv
        rw [← hvn] at hfew
        have HNX : Hid (t + vn = sizeC (e.chains.take (j + 1))) := by
          show _ = _
          rw [take_snoc_getD hjl, sizeC_end, ← HT.out, hvn]
        generalize (e.chains.getD j default).1 = key at *
        clear hvv hkz hrun hvn
        go_wp2
        go_roundw
        case rel => exact ⟨j + 1, t + vn, by omega, by omega, by go_num, by go_num, HNX, below_deep HBR.out (grew _ _)⟩
        case measure => simp [intOf]; omega
      · obtain rfl : j = cn := by omega
        have HT2 : Hid (sizeC e.chains = t) := by
          have := HT.out
          rw [List.take_of_length_le (by rw [← HCL.out]; exact Nat.le_refl _)] at this
          exact this.symm
        have HB6 := hid (below_deep HB5.out HBR.out)
        have HBE6 := hid (HBE.out.below HBR.out)
        have HLE6 := hid (HLE.out.below HBR.out)
        clear x0 x1 x2 x3 x4 hel HT HBR HBE HLE hlt hj
        generalize wr = W6 at *
        obtain ⟨x0, x1, x2, x3, x4⟩ := HBE6.out.cells5
        have hel : be < W6.heap.size := HBE6.out.lt
        obtain ⟨wd, hwd⟩ : ∃ wd, (seenTo e at_).2 = wd := ⟨_, rfl⟩
        have HWD := hid hwd
        clear hwd
        have PS := hid (tidySeen_calls HGD.out (by have := HDN.out; omega) at_ _ W6 ⟨_, _, _, _, _, _, _, _, _, _, _, _, rfl, HLE6.out⟩)
        go_wp2_with fail
        refine PS.out.mono ?_
        rintro x W7 ⟨b7, n7, c7, rfl, h7, hb7⟩
        rw [HWD.out]
        have HH7 := hid h7
        have HB7 := hid (below_deep HB6.out hb7)
        have HBE7 := hid (HBE6.out.below hb7)
        have HLE7 := hid (HLE6.out.below hb7)
        clear x0 x1 x2 x3 x4 hel h7 hb7 HBE6 HLE6 PS
        obtain ⟨x0, x1, x2, x3, x4⟩ := HBE7.out.cells5
        have hel : be < W7.heap.size := HBE7.out.lt
        have PT := hid (refSeen_calls HGD.out (by have := HDN.out; omega) at_ _ W7 ⟨_, _, _, _, _, _, _, _, _, _, _, _, rfl, HLE7.out⟩)
        go_wp2_with fail
        refine PT.out.mono ?_
        rintro x A ⟨b8, n8, c8, rfl, h8, hb8⟩
        rw [HWD.out]
        have HH8 := hid h8
        have HH78 := hid (HH7.out.below hb8)
        have HB8 := hid (below_deep HB7.out hb8)
        have HBE8 := hid (HBE7.out.below hb8)
        have HLE8 := hid (HLE7.out.below hb8)
        clear x0 x1 x2 x3 x4 hel h8 hb8 HBE7 HLE7 PT HH7
        go_upto_region 12 with fail
        have HDR := hid (step_drew (Below.refl A.heap.size A))
        have HS0 : Hid ((fun w' => w'.cell? ⟨be, 0, none⟩ = some (.slice cb j cc) ∧ w'.cell? ⟨be, 1, none⟩ = some (.slice db dn dc) ∧ w'.cell? ⟨be, 2, none⟩ = some (.slice sb sn sc) ∧ w'.cell? ⟨be, 3, none⟩ = some (.slice eb en ec) ∧ w'.cell? ⟨be, 4, none⟩ = some (.int .i64 e.base) ∧ Below A.heap.size A w') A.drew) := by
          obtain ⟨a0, a1, a2, a3, a4⟩ := (HBE8.out.below HDR.out).cells5
          exact ⟨a0, a1, a2, a3, a4, HDR.out⟩
        obtain ⟨mk, hmk⟩ : ∃ mk : Int, ((markE e : Nat) : Int) = mk := ⟨_, rfl⟩
        obtain ⟨ce, hce⟩ : ∃ ce, clearE e (markE e) = ce := ⟨_, rfl⟩
        have HIN : Hid (∀ W, Below A.heap.size A W → EngIn W (.agg #[.slice cb j cc, .slice db dn dc, .slice sb sn sc, .slice eb en ec, .int .i64 e.base]) e) := fun W hb => ⟨_, _, _, _, _, _, _, _, _, _, _, _, rfl, HLE8.out.below hb⟩
        have P1 : Hid (∀ W, Below A.heap.size A W → Calls Try.prog 8 #[.agg #[.slice cb j cc, .slice db dn dc, .slice sb sn sc, .slice eb en ec, .int .i64 e.base]] W fun x w' => x = .returned (.int .i64 mk) ∧ Below W.heap.size W w') := fun W hb => by
          rw [← hmk]
          exact tidyMark_calls e _ W (HIN.out W hb) (by rw [HGD.out.slen, HGD.out.len]; have := HDN.out; omega) HGD.out.slen HGD.out.elen
        have P2 : Hid (∀ W, Below A.heap.size A W → Calls Try.prog 9 #[.agg #[.slice cb j cc, .slice db dn dc, .slice sb sn sc, .slice eb en ec, .int .i64 e.base]] W fun x w' => x = .returned (.int .i64 mk) ∧ Below W.heap.size W w') := fun W hb => by
          rw [← hmk]
          exact refMark_calls e _ W (HIN.out W hb) (by rw [HGD.out.slen, HGD.out.len]; have := HDN.out; omega)
        have P3 : Hid (∀ W, Below A.heap.size A W → Calls Try.prog 10 #[.agg #[.slice cb j cc, .slice db dn dc, .slice sb sn sc, .slice eb en ec, .int .i64 e.base]] W fun x w' => x = .returned (.int .i64 (t : Int)) ∧ Below W.heap.size W w') := fun W hb => by
          rw [← HT2.out]
          exact tidySize_calls e _ W HFIT.out HFEW.out (HIN.out W hb)
        have P4 : Hid (∀ W, Below A.heap.size A W → Calls Try.prog 11 #[.slice b7 n7 c7, .slice b8 n8 c8] W fun x w' => x = .returned (.bool true) ∧ Below W.heap.size W w') := fun W hb =>
          same_holds _ b7 b8 n7 n8 c7 c8 W (HH78.out.below hb) (HH8.out.below hb)
        have P5 : Hid (∀ W, Below A.heap.size A W → Calls Try.prog 13 #[.agg #[.slice cb j cc, .slice db dn dc, .slice sb sn sc, .slice eb en ec, .int .i64 e.base]] W fun x w' => EngTold W w' ce x) := fun W hb => by
          rw [← hce]
          exact tidyClear_calls HGD.out (by have := HDN.out; omega) _ W (HIN.out W hb)
        have P6 : Hid (∀ W, Below A.heap.size A W → Calls Try.prog 14 #[.agg #[.slice cb j cc, .slice db dn dc, .slice sb sn sc, .slice eb en ec, .int .i64 e.base]] W fun x w' => EngTold W w' ce x) := fun W hb => by
          rw [← hce]
          exact refClearE_calls HGD.out (by have := HDN.out; omega) _ W (HIN.out W hb)
        have P7 : Hid (∀ va vb W, EngIn W va ce → EngIn W vb ce → Calls Try.prog 12 #[va, vb] W fun x w' => x = .returned (.bool true) ∧ Below W.heap.size W w') := fun va vb W ha hb => sameEng_calls ce va vb W ha hb
        have t0 : (mk == mk) = true := by simp
        have t1 : ((t : Int) == (t : Int)) = true := by simp
        have t2 : (wd == wd) = true := by simp
        have hel : be < A.heap.size := HBE8.out.lt
        clear HBE8 HLE8 HH78 HH8 hmk hce HIN
        go_region_held3 (fun w' => w'.cell? ⟨be, 0, none⟩ = some (.slice cb j cc) ∧ w'.cell? ⟨be, 1, none⟩ = some (.slice db dn dc) ∧ w'.cell? ⟨be, 2, none⟩ = some (.slice sb sn sc) ∧ w'.cell? ⟨be, 3, none⟩ = some (.slice eb en ec) ∧ w'.cell? ⟨be, 4, none⟩ = some (.int .i64 e.base) ∧ Below A.heap.size A w')
          (first
            | exact HS0.out
            | with_reducible exact keep5 (by assumption) (by assumption))
          (first
            | (go_at_call 8; refine (P1.out _ ?_).mono ?_; exact held5 (by assumption); rintro x w9 ⟨rfl, hb9⟩)
            | (go_at_call 9; refine (P2.out _ ?_).mono ?_; exact held5 (by assumption); rintro x w10 ⟨rfl, hb10⟩)
            | (go_at_call 10; refine (P3.out _ ?_).mono ?_; exact held5 (by assumption); rintro x w11 ⟨rfl, hb11⟩)
            | (go_at_call 11; refine (P4.out _ ?_).mono ?_; exact held5 (by assumption); rintro x w12 ⟨rfl, hb12⟩)
            | (go_at_call 13; refine (P5.out _ ?_).mono ?_; exact held5 (by assumption); rintro x w13 ⟨v13, rfl, hv13, hb13⟩)
            | (go_at_call 14; refine (P6.out _ ?_).mono ?_; exact held5 (by assumption); rintro x w14 ⟨v14, rfl, hv14, hb14⟩)
            | (go_at_call 12; refine (P7.out v13 v14 _ ?_ ?_).mono ?_; exact hv13.below hb14; exact hv14; rintro x w15 ⟨rfl, hb15⟩))
        have HBT := hid (below_deep HB8.out (below_deep (below_deep (below_deep (below_deep (below_deep (below_deep (below_deep HDR.out hb9) hb10) hb11) hb12) hb13) hb14) hb15))
        go_wp2
        go_ret
        exact ⟨rfl, HBT.out⟩
  · have t := ne_true hz
    clear hz
    generalize wrong l = q at *
    go_wp2
    go_ret
    exact ⟨rfl, HB1.out⟩
end Go.Proofs.Ytdnafpenljdinad
