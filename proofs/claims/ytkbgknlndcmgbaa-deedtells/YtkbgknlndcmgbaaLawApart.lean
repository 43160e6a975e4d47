/-
  The walk of the statement RowsApart: the call returns true and changes nothing that was there.
-/
import Derived.Test.YtkbgknlndcmgbaaAlive
import Derived.Test.YtkbgknlndcmgbaaSame
namespace Go.Proofs.Ytkbgknlndcmgbaa
open Go.RowKit

theorem same_holds (l : List Row) (ba bb : Option Addr) (na nb ca cb : Nat) (w : World) (ha : Holds w ba na ca l) (hb : Holds w bb nb cb l) :
    Calls Try.prog 16 #[.slice ba na ca, .slice bb nb cb] w fun e w' => e = .returned (.bool true) ∧ Below w.heap.size w w' := by
  have h1 := ha.len
  have h2 := hb.len
  subst h1 h2
  exact same_calls l ba bb ca cb w (Nat.le_trans ha.hdr.le ha.hdr.max) ha.seg hb.seg

theorem wrong_holds (l : List Row) (ba : Option Addr) (na ca : Nat) (w : World) (hsm : Small l) (ha : Holds w ba na ca l) :
    Calls Try.prog 10 #[.slice ba na ca] w fun e w' => e = .returned (.int .i64 (wrong l)) ∧ Below w.heap.size w w' := by
  have h1 := ha.len
  subst h1
  exact wrong_calls l ba ca w (Nat.le_trans ha.hdr.le ha.hdr.max) hsm ha.seg

theorem get_holds (l : List Row) (ba : Option Addr) (na ca : Nat) (k : ByteArray) (w : World) (hn : na < 4611686018427387904) (hs : Srt l) (ha : Holds w ba na ca l) :
    Calls Try.prog 14 #[.slice ba na ca, .string k] w fun e w' => e = .returned (.tuple #[.int .i64 (num k l), .bool (isAt k l)]) ∧ Below w.heap.size w w' := by
  have h1 := ha.len
  subst h1
  exact get_calls l ba ca k w hn hs ha.seg

theorem ins_bound {k : ByteArray} {m : Int} {l : List Row} {n n' : Nat} (h : n = l.length) (h' : n' = (ins k m l).length) : n' ≤ n + 1 := by
  have := ins_length k m l; omega
theorem del_bound {k : ByteArray} {l : List Row} {n n' : Nat} (h : n = l.length) (h' : n' = (del k l).length) : n' ≤ n := by
  have := del_length k l; omega

set_option maxHeartbeats 1000000 in
theorem apart_calls (l : List Row) (base : Option Addr) (n c : Nat) (a b : ByteArray) (x y : Int) (w : World) (hn : (n + 2) * 24 ≤ 140737488355328) (hsm : Small l) (hh : Holds w base n c l)
    (hsa : a.size ≤ maxLen) (hsb : b.size ≤ maxLen) :
    Calls Try.prog 4 #[.slice base n c, .string a, .string b, .int .i64 x, .int .i64 y] w fun e w' => e = .returned (.bool true) ∧ Below w.heap.size w w' := by
  have HS := hid hsm
  have H0 := hid hh
  have HKA := hid (fun W => key_calls a W hsa)
  have HKB := hid (fun W => key_calls b W hsb)
  clear hsm hh hsa hsb
  by_cases hw : wrong l = 0
  case neg =>
    have hw' : (wrong l == 0) = false := by simpa using hw
    have hwb : (wrong l != 0) = true := by simpa using hw
    go_enter Try.func4, Try.ntmps4
    go_wp2_with fail
    refine (alive_calls w).mono ?_
    rintro e w1 ⟨rfl, hb1⟩
    go_wp2_with fail
    refine (wrong_holds l base n c w1 HS.out (H0.out.below hb1)).mono ?_
    rintro e w2 ⟨rfl, hb2⟩
    go_wp2
    go_ret
    exact ⟨rfl, hb1.trans (hb2.mono hb1.size)⟩
  have hR := right_of hw
  have HW := hid hw
  have hsr := hR.srt
  clear hw
  cases hka : keyB a with
  | false =>
    rw [hka] at HKA
    clear hka
    go_enter Try.func4, Try.ntmps4
    go_wp2_with fail
    refine (alive_calls w).mono ?_
    rintro e w1 ⟨rfl, hb1⟩
    go_wp2_with fail
    refine (wrong_holds l base n c w1 HS.out (H0.out.below hb1)).mono ?_
    rw [HW.out]
    rintro e w2 ⟨rfl, hb2⟩
    go_wp2_with fail
    refine (HKA.out _).mono ?_
    rintro e w3 ⟨rfl, rfl⟩
    go_wp2
    go_ret
    exact ⟨rfl, hb1.trans (hb2.mono hb1.size)⟩
  | true =>
    rw [hka] at HKA
    clear hka
    cases hkb : keyB b with
    | false =>
    rw [hkb] at HKB
    clear hkb
    go_enter Try.func4, Try.ntmps4
    go_wp2_with fail
    refine (alive_calls w).mono ?_
    rintro e w1 ⟨rfl, hb1⟩
    go_wp2_with fail
    refine (wrong_holds l base n c w1 HS.out (H0.out.below hb1)).mono ?_
    rw [HW.out]
    rintro e w2 ⟨rfl, hb2⟩
    go_wp2_with fail
    refine (HKA.out _).mono ?_
    rintro e w3 ⟨rfl, rfl⟩
    go_wp2_with fail
    refine (HKB.out _).mono ?_
    rintro e w4 ⟨rfl, rfl⟩
    go_wp2
    go_ret
    exact ⟨rfl, hb1.trans (hb2.mono hb1.size)⟩
    | true =>
    rw [hkb] at HKB
    clear hkb
    by_cases hab : a = b
    · subst hab
      have hbe : (a.toList == a.toList) = true := by simp
      go_enter Try.func4, Try.ntmps4
      go_wp2_with fail
      refine (alive_calls w).mono ?_
      rintro e w1 ⟨rfl, hb1⟩
      go_wp2_with fail
      refine (wrong_holds l base n c w1 HS.out (H0.out.below hb1)).mono ?_
      rw [HW.out]
      rintro e w2 ⟨rfl, hb2⟩
      go_wp2_with fail
      refine (HKA.out _).mono ?_
      rintro e w3 ⟨rfl, rfl⟩
      go_wp2_with fail
      refine (HKB.out _).mono ?_
      rintro e w4 ⟨rfl, rfl⟩
      go_wp2
      go_ret
      exact ⟨rfl, hb1.trans (hb2.mono hb1.size)⟩
    have hbe : (a.toList == b.toList) = false := by simpa using fun e => hab (toList_inj e)
    have HII := hid (ins_ins x y hab l)
    have HDI := hid (del_ins (b := b) x hab l hsr)
    have HSR := hid hsr
    clear hab hsr hR
    go_enter Try.func4, Try.ntmps4
    go_wp2_with fail
    refine (alive_calls w).mono ?_
    rintro e w1 ⟨rfl, hb1⟩
    go_wp2_with fail
    refine (wrong_holds l base n c w1 HS.out (H0.out.below hb1)).mono ?_
    rw [HW.out]
    rintro e w2 ⟨rfl, hb2⟩
    go_wp2_with fail
    refine (HKA.out _).mono ?_
    rintro e w3 ⟨rfl, rfl⟩
    go_wp2_with fail
    refine (HKB.out _).mono ?_
    rintro e w4 ⟨rfl, rfl⟩
    have HB2 := hid (hb1.trans (hb2.mono hb1.size))
    have A0 := hid (H0.out.below HB2.out)
    clear hb1 hb2
    -- Put(Put(r, a, x), b, y)
    go_wp2_with fail
    refine (put_calls l base n c a x w2 (by omega) HSR.out A0.out).mono ?_
    rintro e w3 ⟨d1, n1, c1, rfl, h1, hb3⟩
    have hn1 := ins_bound A0.out.len h1.len
    have HB3 := hid (HB2.out.trans (hb3.mono HB2.out.size))
    have H1 := hid h1
    clear h1 hb3
    go_wp2_with fail
    refine (put_calls _ d1 n1 c1 b y w3 (by omega) (srt_ins HSR.out) H1.out).mono ?_
    rintro e w4 ⟨d2, n2, c2, rfl, h2, hb4⟩
    have HB4 := hid (HB3.out.trans (hb4.mono HB3.out.size))
    have H2 := hid h2
    clear h2 hb4
    -- Put(Put(r, b, y), a, x)
    go_wp2_with fail
    refine (put_calls l base n c b y w4 (by omega) HSR.out (H0.out.below HB4.out)).mono ?_
    rintro e w5 ⟨d3, n3, c3, rfl, h3, hb5⟩
    have hn3 := ins_bound H0.out.len h3.len
    have HB5 := hid (HB4.out.trans (hb5.mono HB4.out.size))
    have H2' := hid (H2.out.below hb5)
    have H3 := hid h3
    clear h3 hb5
    go_wp2_with fail
    refine (put_calls _ d3 n3 c3 a x w5 (by omega) (srt_ins HSR.out) H3.out).mono ?_
    rintro e w6 ⟨d4, n4, c4, rfl, h4, hb6⟩
    have HB6 := hid (HB5.out.trans (hb6.mono HB5.out.size))
    have H2'' := hid (H2'.out.below hb6)
    rw [← HII.out] at h4
    have H4 := hid h4
    clear h4 hb6
    go_wp2_with fail
    refine (same_holds _ d2 d4 n2 n4 c2 c4 w6 H2''.out H4.out).mono ?_
    rintro e w7 ⟨rfl, hb7⟩
    have HB7 := hid (HB6.out.trans (hb7.mono HB6.out.size))
    clear hb7
    -- Drop(Put(r, a, x), b)
    go_wp2_with fail
    refine (put_calls l base n c a x w7 (by omega) HSR.out (H0.out.below HB7.out)).mono ?_
    rintro e w8 ⟨d5, n5, c5, rfl, h5, hb8⟩
    have hn5 := ins_bound H0.out.len h5.len
    have HB8 := hid (HB7.out.trans (hb8.mono HB7.out.size))
    have H5 := hid h5
    clear h5 hb8
    go_wp2_with fail
    refine (drop_calls _ d5 n5 c5 b w8 (by omega) (srt_ins HSR.out) H5.out).mono ?_
    rintro e w9 ⟨d6, n6, c6, rfl, h6, hb9⟩
    have HB9 := hid (HB8.out.trans (hb9.mono HB8.out.size))
    have H6 := hid h6
    clear h6 hb9
    -- Put(Drop(r, b), a, x)
    go_wp2_with fail
    refine (drop_calls l base n c b w9 (by omega) HSR.out (H0.out.below HB9.out)).mono ?_
    rintro e w10 ⟨d7, n7, c7, rfl, h7, hb10⟩
    have hn7 := del_bound H0.out.len h7.len
    have HB10 := hid (HB9.out.trans (hb10.mono HB9.out.size))
    have H6' := hid (H6.out.below hb10)
    have H7 := hid h7
    clear h7 hb10
    go_wp2_with fail
    refine (put_calls _ d7 n7 c7 a x w10 (by omega) (srt_del HSR.out) H7.out).mono ?_
    rintro e w11 ⟨d8, n8, c8, rfl, h8, hb11⟩
    have HB11 := hid (HB10.out.trans (hb11.mono HB10.out.size))
    have H6'' := hid (H6'.out.below hb11)
    rw [← HDI.out] at h8
    have H8 := hid h8
    clear h8 hb11
    go_wp2_with fail
    refine (same_holds _ d6 d8 n6 n8 c6 c8 w11 H6''.out H8.out).mono ?_
    rintro e w12 ⟨rfl, hb12⟩
    go_wp2
    go_ret
    exact ⟨rfl, HB11.out.trans (hb12.mono HB11.out.size)⟩
end Go.Proofs.Ytkbgknlndcmgbaa
