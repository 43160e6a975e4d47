/-
  What the statements of chapter 10 build: a replica that entries came to.
  Cells and blocks in worlds that have been written on.
  How a replica catches up: the program's 'catchUp'.
-/
import Derived.Test.YtlhaeeenkgkdaaaGreatDoorRefCome
import Derived.Test.YtlhaeeenkgkdaaaGreatDoorRefGoE
import Derived.Test.YtlhaeeenkgkdaaaGreatDoorRefOldE
import Derived.Test.YtlhaeeenkgkdaaaGreatDoorRefNeeds
import Derived.Test.YtlhaeeenkgkdaaaGreatDoorPlanLib
import Derived.Test.YtlhaeeenkgkdaaaGreatDoorRepFinds
import Derived.Deep.DeepCutAuto
import Derived.Deep.RegionWith
import Derived.Test.YtlhaeeenkgkdaaaGreatDoorComeIn
import Derived.Test.YtlhaeeenkgkdaaaGreatDoorRepDel
import Derived.Deep.RegionHeld3
namespace Go.Proofs.YtlhaeeenkgkdaaaGreatDoor
open Go.RowKit

def KeptR (w0 W : World) (b : Nat) : Prop := ∃ es m dq bq r cb cn cc db dn' dc sb sn sc eb en ec ab an ac S, GoodR es m dq bq r ∧ Box W b (repA cb cn cc db dn' dc sb sn sc eb en ec r.eng.base r.next ab an ac) 35 ∧ RepParts w0 W cb cn cc db dn' dc sb sn sc eb en ec ab an ac S r
theorem KeptR.below {w0 W W' : World} {b : Nat} (h : KeptR w0 W b) (hb : Below W.heap.size W W') : KeptR w0 W' b := by
 obtain ⟨es, m, dq, bq, r, cb, cn, cc, db, dn', dc, sb, sn, sc, eb, en, ec, ab, an, ac, S, h1, h2, h3⟩ := h
 exact ⟨es, m, dq, bq, r, cb, cn, cc, db, dn', dc, sb, sn, sc, eb, en, ec, ab, an, ac, S, h1, h2.below hb, h3.below hb⟩
theorem KeptR.put5 {w0 W W1 : World} {cb db sb eb ab : Option Addr} {b cn cc dn' dc sn sc en ec an ac : Nat} {S : List ESlot} {es : List Ent} {m m' : Nat} {dq dq' : Nat → Bool} {bq bq' : ByteArray → Int} {r : Rep} (h : GoodR es m dq bq r) (hb : Box W b (repA cb cn cc db dn' dc sb sn sc eb en ec r.eng.base r.next ab an ac) 35) (hp : RepParts w0 W cb cn cc db dn' dc sb sn sc eb en ec ab an ac S r) (hw : Below W.heap.size W W1)
   {E : Eng} (hE : Good [] (deedsOf es) m' dq' bq' E) {cb2 db2 sb2 eb2 : Option Addr} {cn2 cc2 dn2 dc2 sn2 sc2 en2 ec2 : Nat} (hl : EngLies W1 cb2 cn2 cc2 db2 dn2 dc2 sb2 sn2 sc2 eb2 en2 ec2 E) :
   KeptR w0 (put5 W1 b (.slice cb2 cn2 cc2) (.slice db2 dn2 dc2) (.slice sb2 sn2 sc2) (.slice eb2 en2 ec2) (.int .i64 E.base)) b := by
 have hB := hb.below hw
 have hp1 : RepParts w0 W1 cb2 cn2 cc2 db2 dn2 dc2 sb2 sn2 sc2 eb2 en2 ec2 ab an ac S ⟨E, r.next, r.early⟩ := ⟨hl, hp.row.below (by decide) hw, hp.slots.below hw, hp.kind.below hw⟩
 have s0 : Box (W1.setCell ⟨b, 0, none⟩ (.slice cb2 cn2 cc2)) b (repA cb2 cn2 cc2 db dn' dc sb sn sc eb en ec r.eng.base r.next ab an ac) 35 := hB.set 0 _
 have s1 : Box ((W1.setCell ⟨b, 0, none⟩ (.slice cb2 cn2 cc2)).setCell ⟨b, 1, none⟩ (.slice db2 dn2 dc2)) b (repA cb2 cn2 cc2 db2 dn2 dc2 sb sn sc eb en ec r.eng.base r.next ab an ac) 35 := s0.set 1 _
 have s2 : Box (((W1.setCell ⟨b, 0, none⟩ (.slice cb2 cn2 cc2)).setCell ⟨b, 1, none⟩ (.slice db2 dn2 dc2)).setCell ⟨b, 2, none⟩ (.slice sb2 sn2 sc2)) b (repA cb2 cn2 cc2 db2 dn2 dc2 sb2 sn2 sc2 eb en ec r.eng.base r.next ab an ac) 35 := s1.set 2 _
 have s3 : Box ((((W1.setCell ⟨b, 0, none⟩ (.slice cb2 cn2 cc2)).setCell ⟨b, 1, none⟩ (.slice db2 dn2 dc2)).setCell ⟨b, 2, none⟩ (.slice sb2 sn2 sc2)).setCell ⟨b, 3, none⟩ (.slice eb2 en2 ec2)) b (repA cb2 cn2 cc2 db2 dn2 dc2 sb2 sn2 sc2 eb2 en2 ec2 r.eng.base r.next ab an ac) 35 := s2.set 3 _
 exact ⟨es, m', dq', bq', ⟨E, r.next, r.early⟩, cb2, cn2, cc2, db2, dn2, dc2, sb2, sn2, sc2, eb2, en2, ec2, ab, an, ac, S, h.with_eng hE, s3.set 4 _, hp1.put hB (put5_off W1 b _ _ _ _ _)⟩
theorem KeptR.put7 {w0 W : World} {cb db sb eb ab : Option Addr} {b cn cc dn' dc sn sc en ec an ac : Nat} {S : List ESlot} {es : List Ent} {m : Nat} {dq : Nat → Bool} {bq : ByteArray → Int} {r : Rep} (h : GoodR es m dq bq r) {cb2 db2 sb2 eb2 : Option Addr} {cn2 cc2 dn2 dc2 sn2 sc2 en2 ec2 : Nat} {x y : Int} {ab2 : Option Addr} {an2 ac2 : Nat}
   (hb : Box W b (repA cb2 cn2 cc2 db2 dn2 dc2 sb2 sn2 sc2 eb2 en2 ec2 x y ab2 an2 ac2) 35) (hp : RepParts w0 W cb cn cc db dn' dc sb sn sc eb en ec ab an ac S r) :
   KeptR w0 (put7 W b (.slice cb cn cc) (.slice db dn' dc) (.slice sb sn sc) (.slice eb en ec) (.int .i64 r.eng.base) (.int .i64 r.next) (.slice ab an ac)) b :=
 ⟨es, m, dq, bq, r, cb, cn, cc, db, dn', dc, sb, sn, sc, eb, en, ec, ab, an, ac, S, h, put7_box hb _ _ _ _ _ _ _, hp.put hb (put7_off W b _ _ _ _ _ _ _)⟩
theorem put7_far {w : World} {b b' : Nat} {cs : Array Value} {t : TypeId} (h : Box w b' cs t) (hne : b' ≠ b) (v0 v1 v2 v3 v4 v5 v6 : Value) : Box (put7 w b v0 v1 v2 v3 v4 v5 v6) b' cs t :=
 ((((((h.far ⟨b, 0, none⟩ hne v0).far ⟨b, 1, none⟩ hne v1).far ⟨b, 2, none⟩ hne v2).far ⟨b, 3, none⟩ hne v3).far ⟨b, 4, none⟩ hne v4).far ⟨b, 5, none⟩ hne v5).far ⟨b, 6, none⟩ hne v6
theorem newR_parts (w0 w : World) : RepParts w0 w none 0 0 none 0 0 none 0 0 none 0 0 none 0 0 [] newR :=
 ⟨⟨ChainsIn.none _, ⟨rfl, ⟨Nat.le_refl _, Nat.zero_le _, fun _ => rfl⟩, .inl rfl⟩, Lies.none _ _, Lies.none _ _, Kind.none _ _, Kind.none _ _, Kind.none _ _⟩, Lies.none _ _, ESlotsAt.nil _ _, Kind.none _ _⟩
theorem ready_goE {r0 : List Row} {D : List Deed3} {m : Nat} {dq : Nat → Bool} {bq : ByteArray → Int} {e : Eng} (G : Good r0 D m dq bq e) {q : Nat} (hq : q ∈ readyE e) : goTo e (q : Int) = (goE e q, 0) := by
 obtain ⟨h1, h2, h3⟩ := (ready_mem G).1 hq
 have hl : q < e.deeds.length := by rw [G.len]; omega
 unfold goTo
 rw [if_neg (by omega), Int.toNat_natCast, if_neg (by rw [G.state_at h1, h2]; simp), if_neg (by rw [h3]; simp)]
def BuiltR (w w' : World) (x : Ending) : Prop := ∃ v es m dq bq r, x = .returned v ∧ GoodR es m dq bq r ∧ RepAt w w' v r ∧ Below w.heap.size w w'
theorem build10_results (tmps : Array Value) (b : Nat) (w : World) {a0 a1 a2 a3 a6 : Option Addr} {n0 n1 n2 n3 n6 c0 c1 c2 c3 c6 : Nat} {z y : Int} (h : tmps.getD 4 undef = .pointer (some ⟨b, 0, none⟩)) (hb : Box w b (repA a0 n0 c0 a1 n1 c1 a2 n2 c2 a3 n3 c3 z y a6 n6 c6) 35) :
   (results Tryz.f6 tmps).run Tryz.prog w = .ok (.agg (repA a0 n0 c0 a1 n1 c1 a2 n2 c2 a3 n3 c3 z y a6 n6 c6)) w := by
 have h' : tmps[4]?.getD undef = .pointer (some ⟨b, 0, none⟩) := by simpa using h
 obtain ⟨k0, k1, k2, k3, k4, k5, k6⟩ := hb.cells7
 simp [results, Tryz.results6, go_sem, h', k0, k1, k2, k3, k4, k5, k6]
end Go.Proofs.YtlhaeeenkgkdaaaGreatDoor

namespace Go.Proofs.YtlhaeeenkgkdaaaGreatDoor
open Go.RowKit

theorem low_five {w : World} {B b : Nat} (hb : B ≤ b) (v0 v1 v2 v3 v4 : Value) : Below B w (((((w.setCell ⟨b, 0, none⟩ v0).setCell ⟨b, 1, none⟩ v1).setCell ⟨b, 2, none⟩ v2).setCell ⟨b, 3, none⟩ v3).setCell ⟨b, 4, none⟩ v4) := put5_below (Below.refl _ _) hb v0 v1 v2 v3 v4
theorem low_seven {w : World} {B b : Nat} (hb : B ≤ b) (v0 v1 v2 v3 v4 v5 v6 : Value) : Below B w (((((((w.setCell ⟨b, 0, none⟩ v0).setCell ⟨b, 1, none⟩ v1).setCell ⟨b, 2, none⟩ v2).setCell ⟨b, 3, none⟩ v3).setCell ⟨b, 4, none⟩ v4).setCell ⟨b, 5, none⟩ v5).setCell ⟨b, 6, none⟩ v6) := put7_below (Below.refl _ _) hb v0 v1 v2 v3 v4 v5 v6
theorem boxnew_drew (w : World) (vs : Array Value) (t : TypeId) : Box (w.alloc (.cells vs t)).drew w.heap.size vs t := Box.new w vs t
theorem box_five {w : World} {b : Nat} {t : TypeId} {u0 u1 u2 u3 u4 : Value} (h : Box w b #[u0, u1, u2, u3, u4] t) (v0 v1 v2 v3 v4 : Value) : Box (((((w.setCell ⟨b, 0, none⟩ v0).setCell ⟨b, 1, none⟩ v1).setCell ⟨b, 2, none⟩ v2).setCell ⟨b, 3, none⟩ v3).setCell ⟨b, 4, none⟩ v4) b #[v0, v1, v2, v3, v4] t := put5_box h v0 v1 v2 v3 v4
theorem off_five (w : World) (b : Nat) (v0 v1 v2 v3 v4 : Value) : Off b w (((((w.setCell ⟨b, 0, none⟩ v0).setCell ⟨b, 1, none⟩ v1).setCell ⟨b, 2, none⟩ v2).setCell ⟨b, 3, none⟩ v3).setCell ⟨b, 4, none⟩ v4) := put5_off w b v0 v1 v2 v3 v4
end Go.Proofs.YtlhaeeenkgkdaaaGreatDoor

namespace Go.Proofs.YtlhaeeenkgkdaaaGreatDoor
open Go.RowKit

theorem catch_results (tmps : Array Value) (b : Nat) (w : World) {a0 a1 a2 a3 a6 : Option Addr} {n0 n1 n2 n3 n6 c0 c1 c2 c3 c6 : Nat} {z y : Int} (h : tmps.getD 2 undef = .pointer (some ⟨b, 0, none⟩)) (hb : Box w b (repA a0 n0 c0 a1 n1 c1 a2 n2 c2 a3 n3 c3 z y a6 n6 c6) 35) :
   (results Tryz.f22 tmps).run Tryz.prog w = .ok (.agg (repA a0 n0 c0 a1 n1 c1 a2 n2 c2 a3 n3 c3 z y a6 n6 c6)) w := by
 have h' : tmps[2]?.getD undef = .pointer (some ⟨b, 0, none⟩) := by simpa using h
 obtain ⟨k0, k1, k2, k3, k4, k5, k6⟩ := hb.cells7
 simp [results, Tryz.results22, go_sem, h', k0, k1, k2, k3, k4, k5, k6]
theorem catch_keep {A w1 w2 : World} {b : Nat} {x0 x1 x2 x3 x4 x5 x6 : Value} (h : w1.cell? ⟨b, 0, none⟩ = some x0 ∧ w1.cell? ⟨b, 1, none⟩ = some x1 ∧ w1.cell? ⟨b, 2, none⟩ = some x2 ∧ w1.cell? ⟨b, 3, none⟩ = some x3 ∧ w1.cell? ⟨b, 4, none⟩ = some x4 ∧ w1.cell? ⟨b, 5, none⟩ = some x5 ∧ w1.cell? ⟨b, 6, none⟩ = some x6 ∧ Below A.heap.size A w1) (hb : Below w1.heap.size w1 w2) :
   w2.cell? ⟨b, 0, none⟩ = some x0 ∧ w2.cell? ⟨b, 1, none⟩ = some x1 ∧ w2.cell? ⟨b, 2, none⟩ = some x2 ∧ w2.cell? ⟨b, 3, none⟩ = some x3 ∧ w2.cell? ⟨b, 4, none⟩ = some x4 ∧ w2.cell? ⟨b, 5, none⟩ = some x5 ∧ w2.cell? ⟨b, 6, none⟩ = some x6 ∧ Below A.heap.size A w2 := by
 obtain ⟨h0, h1, h2, h3, h4, h5, h6, hz⟩ := h
 exact ⟨kept_cell hb h0, kept_cell hb h1, kept_cell hb h2, kept_cell hb h3, kept_cell hb h4, kept_cell hb h5, kept_cell hb h6, below_deep hz hb⟩
theorem catch_held {p0 p1 p2 p3 p4 p5 p6 : Prop} {B : Nat} {A w' : World} (h : p0 ∧ p1 ∧ p2 ∧ p3 ∧ p4 ∧ p5 ∧ p6 ∧ Below B A w') : Below B A w' := h.2.2.2.2.2.2.2
theorem eight_keep {A w1 w2 : World} {b : Nat} {x0 x1 x2 x3 x4 x6 y : Value} {pb po : Nat} (h : w1.cell? ⟨b, 0, none⟩ = some x0 ∧ w1.cell? ⟨b, 1, none⟩ = some x1 ∧ w1.cell? ⟨b, 2, none⟩ = some x2 ∧ w1.cell? ⟨b, 3, none⟩ = some x3 ∧ w1.cell? ⟨b, 4, none⟩ = some x4 ∧ w1.cell? ⟨b, 6, none⟩ = some x6 ∧ w1.cell? ⟨pb, po, none⟩ = some y ∧ Below A.heap.size A w1) (hb : Below w1.heap.size w1 w2) :
   w2.cell? ⟨b, 0, none⟩ = some x0 ∧ w2.cell? ⟨b, 1, none⟩ = some x1 ∧ w2.cell? ⟨b, 2, none⟩ = some x2 ∧ w2.cell? ⟨b, 3, none⟩ = some x3 ∧ w2.cell? ⟨b, 4, none⟩ = some x4 ∧ w2.cell? ⟨b, 6, none⟩ = some x6 ∧ w2.cell? ⟨pb, po, none⟩ = some y ∧ Below A.heap.size A w2 := by
 obtain ⟨h0, h1, h2, h3, h4, h5, h6, hz⟩ := h
 exact ⟨kept_cell hb h0, kept_cell hb h1, kept_cell hb h2, kept_cell hb h3, kept_cell hb h4, kept_cell hb h5, kept_cell hb h6, below_deep hz hb⟩
theorem eight_held {p0 p1 p2 p3 p4 p5 p6 : Prop} {B : Nat} {A w' : World} (h : p0 ∧ p1 ∧ p2 ∧ p3 ∧ p4 ∧ p5 ∧ p6 ∧ Below B A w') : Below B A w' := h.2.2.2.2.2.2.2
structure CatchIn (B bx bz : Nat) (w wr : World) (cb : Option Addr) (cn cc : Nat) (db : Option Addr) (dn dc : Nat) (sb : Option Addr) (sn sc : Nat) (eb : Option Addr) (en ec : Nat) (ab : Option Addr) (an ac : Nat) (S : List ESlot) (q : Rep) : Prop where
 box : Box wr bx (repA cb cn cc db dn dc sb sn sc eb en ec q.eng.base q.next ab an ac) 35
 zero : Box wr bz nilR 35
 eng : ∃ B', EngOwn wr B' cb cn cc (.slice db dn dc) (.slice sb sn sc) (.slice eb en ec) q.eng
 early : EarlyOwn wr B ab an ac S q.early
 below : Below B w wr
 le : B ≤ w.heap.size
theorem CatchIn.later {B bx bz : Nat} {w wr wx : World} {cb db sb eb ab : Option Addr} {cn cc dn dc sn sc en ec an ac : Nat} {S : List ESlot} {q : Rep} (h : CatchIn B bx bz w wr cb cn cc db dn dc sb sn sc eb en ec ab an ac S q) (hb : Below wr.heap.size wr wx) : CatchIn B bx bz w wx cb cn cc db dn dc sb sn sc eb en ec ab an ac S q := by
 obtain ⟨B', he⟩ := h.eng
 exact ⟨h.box.below hb, h.zero.below hb, ⟨B', he.below hb⟩, h.early.below hb, h.below.trans (below_lowerB hb (Nat.le_trans h.le h.below.size)), h.le⟩
theorem CatchIn.lies {B bx bz : Nat} {w wr : World} {cb db sb eb ab : Option Addr} {cn cc dn dc sn sc en ec an ac : Nat} {S : List ESlot} {q : Rep} (h : CatchIn B bx bz w wr cb cn cc db dn dc sb sn sc eb en ec ab an ac S q) : EngLies wr cb cn cc db dn dc sb sn sc eb en ec q.eng := by
 obtain ⟨B', he⟩ := h.eng
 exact he.lies2
theorem CatchIn.told {B bx bz : Nat} {w0 w wr : World} {cb db sb eb ab : Option Addr} {cn cc dn dc sn sc en ec an ac : Nat} {S : List ESlot} {q : Rep} (h : CatchIn B bx bz w wr cb cn cc db dn dc sb sn sc eb en ec ab an ac S q) (v0 v1 v2 v3 v4 v5 v6 : Value) : RepParts w0 (put7 wr bz v0 v1 v2 v3 v4 v5 v6) cb cn cc db dn dc sb sn sc eb en ec ab an ac S q := by
 obtain ⟨B', he⟩ := h.eng
 exact (h.early.put h.zero (by decide) (by decide) (by decide) (by decide) (put7_off wr bz v0 v1 v2 v3 v4 v5 v6)).parts (he.putR h.zero (put7_off wr bz v0 v1 v2 v3 v4 v5 v6)).lies2
theorem CatchIn.next {B B4 bx bz j : Nat} {w wc W w6 : World} {cb db sb eb ab : Option Addr} {cn cc dn dc sn sc en ec an ac : Nat} {S : List ESlot} {q : Rep} (h : CatchIn B bx bz w wc cb cn cc db dn dc sb sn sc eb en ec ab an ac S q) (hne : bz ≠ bx) (hBx : B ≤ bx) (hj : j < q.early.length) (hW : Below wc.heap.size wc W)
   {cb4 db4 sb4 eb4 : Option Addr} {cn4 cc4 dn4 dc4 sn4 sc4 en4 ec4 : Nat} {E : Eng} (hE : EngOwn wc B4 cb4 cn4 cc4 (.slice db4 dn4 dc4) (.slice sb4 sn4 sc4) (.slice eb4 en4 ec4) E) {ab6 : Option Addr} {ac6 : Nat} (nx : Int)
   (ho6 : w6.ownsRow B 26 2 (.slice ab6 (an - 1) ac6) (an - 1) (flat eslotC (S.take j ++ S.drop (j + 1)))) (hg6 : W.grownBy w6 (Value.slice ab an ac).ownBlock) :
   CatchIn B bx bz w (put7 w6 bx (.slice cb4 cn4 cc4) (.slice db4 dn4 dc4) (.slice sb4 sn4 sc4) (.slice eb4 en4 ec4) (.int .i64 E.base) (.int .i64 nx) (.slice ab6 (an - 1) ac6)) cb4 cn4 cc4 db4 dn4 dc4 sb4 sn4 sc4 eb4 en4 ec4 ab6 (an - 1) ac6 (S.take j ++ S.drop (j + 1)) ⟨E, nx, q.early.take j ++ q.early.drop (j + 1)⟩ := by
 have hoW := owns_keep h.early.row hW
 have HX6 := (h.box.below hW).grownE (by decide) hoW hg6
 have HZ6 := (h.zero.below hW).grownE (by decide) hoW hg6
 have HO := put7_off w6 bx (.slice cb4 cn4 cc4) (.slice db4 dn4 dc4) (.slice sb4 sn4 sc4) (.slice eb4 en4 ec4) (.int .i64 E.base) (.int .i64 nx) (.slice ab6 (an - 1) ac6)
 have HE6 : EarlyOwn w6 B ab6 (an - 1) ac6 (S.take j ++ S.drop (j + 1)) (q.early.take j ++ q.early.drop (j + 1)) := ⟨ho6, ((h.early.slots.below hW).without hj).grown hoW hg6⟩
 have hle : B ≤ W.heap.size := Nat.le_trans (Nat.le_trans h.le h.below.size) hW.size
 have hbw : Below B w w6 := (h.below.trans (below_lowerB hW (Nat.le_trans h.le h.below.size))).grown hg6 hle (fun k hk => (hoW.lt k hk).1)
 exact ⟨put7_box HX6 _ _ _ _ _ _ _, put7_far HZ6 hne _ _ _ _ _ _ _, ⟨B4, ((hE.below hW).grownE hoW hg6).putR HX6 HO⟩, HE6.put HX6 (by decide) (by decide) (by decide) (by decide) HO, put7_below hbw hBx _ _ _ _ _ _ _, h.le⟩
def CatchTold (B : Nat) (w w' : World) (q : Rep) (x : Ending) : Prop := ∃ v, x = .returned v ∧ (∀ w0, RepAt w0 w' v q) ∧ Below B w w'
structure CatchOf (D : List Deed3) (m : Nat) (dn : Nat → Bool) (b : ByteArray → Int) (F q : Rep) : Prop where
 is : Catch D m dn b q
 goal : pullR q.early.length q = F

set_option maxHeartbeats 16000000 in
set_option maxRecDepth 100000 in
theorem catchUp_calls {D : List Deed3} {m : Nat} {dq : Nat → Bool} {bq : ByteArray → Int} {r : Rep} (h : Catch D m dq bq r) {cb db sb eb ab : Option Addr} {B B' cn cc dn dc sn sc en ec an ac : Nat} {S : List ESlot} (w : World) (hB : B ≤ w.heap.size)
   (he : EngOwn w B' cb cn cc (.slice db dn dc) (.slice sb sn sc) (.slice eb en ec) r.eng) (hea : EarlyOwn w B ab an ac S r.early) :
   Calls Tryz.prog 22 #[.agg (repA cb cn cc db dn dc sb sn sc eb en ec r.eng.base r.next ab an ac)] w fun x w' => CatchTold B w w' (pullR r.early.length r) x := by
 have HX0 := hid (Box.new w (repA cb cn cc db dn dc sb sn sc eb en ec r.eng.base r.next ab an ac) 35)
 have HG0 := hid (grew w (.cells (repA cb cn cc db dn dc sb sn sc eb en ec r.eng.base r.next ab an ac) 35))
 have HZ0 := hid (Box.new (w.alloc (.cells (repA cb cn cc db dn dc sb sn sc eb en ec r.eng.base r.next ab an ac) 35)) nilR 35)
 have HG1 := hid (grew (w.alloc (.cells (repA cb cn cc db dn dc sb sn sc eb en ec r.eng.base r.next ab an ac) 35)) (.cells nilR 35))
 rw [World.size_alloc] at HZ0
 have HBA := hid (below_deep HG0.out HG1.out)
 have HCI := hid (CatchIn.mk (B := B) (w := w) (q := r) (HX0.out.below HG1.out) HZ0.out ⟨B', he.below HBA.out⟩ (hea.below HBA.out) (below_lowerB HBA.out hB) hB)
 obtain ⟨F, hF⟩ : ∃ F, pullR r.early.length r = F := ⟨_, rfl⟩
 have HCO : Hid (CatchOf D m dq bq F r) := ⟨h, hF⟩
 have HNB := hid hB
 rw [hF]
 clear h he hea HX0 HG0 HZ0 HG1 HBA hF hB
 go_enter Tryz.func22, Tryz.ntmps22
 go_wp2
 generalize (w.alloc (.cells (repA cb cn cc db dn dc sb sn sc eb en ec r.eng.base r.next ab an ac) 35)).alloc (.cells nilR 35) = A at *
 go_loopw [3] (fun _ wr => ∃ (cb : Option Addr) (cn cc : Nat) (db : Option Addr) (dn dc : Nat) (sb : Option Addr) (sn sc : Nat) (eb : Option Addr) (en ec : Nat) (ab : Option Addr) (an ac : Nat) (S : List ESlot) (D : List Deed3) (q : Rep), Hid (CatchIn B w.heap.size (w.heap.size + 1) w wr cb cn cc db dn dc sb sn sc eb en ec ab an ac S q) ∧ Hid (CatchOf D m dq bq F q)) (fun _ wr => earlyLen wr w.heap.size)
 case atStart => exact ⟨_, _, _, _, _, _, _, _, _, _, _, _, _, _, _, S, D, r, HCI, HCO⟩
 case round =>
   clear HCI HCO
   obtain ⟨cb, cn, cc, db, dn, dc, sb, sn, sc, eb, en, ec, ab, an, ac, S, D, q, HCI, HCO⟩ := hrel
   have hln : earlyLen wr w.heap.size = an := early_len HCI.out.box
   obtain ⟨x0, x1, x2, x3, x4, x5, x6⟩ := HCI.out.box.cells7
   have hl0 : w.heap.size < wr.heap.size := HCI.out.box.lt
   have HAN := hid HCI.out.early.len
   have hq0 := HCO.out.is.lo
   have hq1 := HCO.out.is.hi
   rw [← HAN.out] at hq1
   have PN := hid (fun W => numbered_calls q.next W)
   have PI := hid (fun fv W ha hf => indexF_calls q.early ab an ac q.next fv W ha hf)
   have HDR := hid (step_drew (Below.refl wr.heap.size wr))
   have HS0 : Hid ((fun w' => w'.cell? ⟨w.heap.size, 0, none⟩ = some (.slice cb cn cc) ∧ w'.cell? ⟨w.heap.size, 1, none⟩ = some (.slice db dn dc) ∧ w'.cell? ⟨w.heap.size, 2, none⟩ = some (.slice sb sn sc) ∧ w'.cell? ⟨w.heap.size, 3, none⟩ = some (.slice eb en ec) ∧ w'.cell? ⟨w.heap.size, 4, none⟩ = some (.int .i64 q.eng.base) ∧ w'.cell? ⟨w.heap.size, 5, none⟩ = some (.int .i64 q.next) ∧ w'.cell? ⟨w.heap.size, 6, none⟩ = some (.slice ab an ac) ∧ Below wr.heap.size wr w') wr.drew) :=
     ⟨kept_cell HDR.out x0, kept_cell HDR.out x1, kept_cell HDR.out x2, kept_cell HDR.out x3, kept_cell HDR.out x4, kept_cell HDR.out x5, kept_cell HDR.out x6, HDR.out⟩
   go_upto_region 1 with fail
   go_region_held3 (fun w' => w'.cell? ⟨w.heap.size, 0, none⟩ = some (.slice cb cn cc) ∧ w'.cell? ⟨w.heap.size, 1, none⟩ = some (.slice db dn dc) ∧ w'.cell? ⟨w.heap.size, 2, none⟩ = some (.slice sb sn sc) ∧ w'.cell? ⟨w.heap.size, 3, none⟩ = some (.slice eb en ec) ∧ w'.cell? ⟨w.heap.size, 4, none⟩ = some (.int .i64 q.eng.base) ∧ w'.cell? ⟨w.heap.size, 5, none⟩ = some (.int .i64 q.next) ∧ w'.cell? ⟨w.heap.size, 6, none⟩ = some (.slice ab an ac) ∧ Below wr.heap.size wr w')
     (first
       | exact HS0.out
       | with_reducible exact catch_keep (by assumption) (by assumption))
     (first
       | (go_at_call 49; refine (PN.out _).mono ?_; rintro _ w2 ⟨fv, rfl, hfv, hb2⟩)
       | (go_at_call 51; refine (PI.out fv _ ?_ ?_).mono ?_; exact HCI.out.early.ents.below (catch_held (by assumption)); exact hfv; rintro _ w3 ⟨⟨k, rfl, hk⟩, hb3⟩))
   have HW3 := hid (below_deep (below_deep HDR.out hb2) hb3)
   have HC3 := hid (HCI.out.later HW3.out)
   clear HCI x0 x1 x2 x3 x4 x5 x6 hl0 hb2 hb3 hfv PN PI HS0 HDR
   generalize w3 = W3 at *
   obtain ⟨x0, x1, x2, x3, x4, x5, x6⟩ := HC3.out.box.cells7
   have hl0 : w.heap.size < W3.heap.size := HC3.out.box.lt
   have hl1 : w.heap.size + 1 < W3.heap.size := HC3.out.zero.lt
   rcases hk with ⟨rfl, hno⟩ | ⟨j, hj, rfl, hyes⟩
   · have HST : Hid (q = F) := (Catch.stop hno _).symm.trans HCO.out.goal
     obtain ⟨z0, z1, z2, z3, z4, z5, z6⟩ := HC3.out.zero.cells7
     obtain ⟨g0, g1, g2, g3, g4, g5, g6⟩ := HC3.out.zero.free7
     have HBF := hid (put7_box HC3.out.zero (.slice cb cn cc) (.slice db dn dc) (.slice sb sn sc) (.slice eb en ec) (.int .i64 q.eng.base) (.int .i64 q.next) (.slice ab an ac))
     have HBL := hid (put7_below HC3.out.below (show B ≤ w.heap.size + 1 by have := HNB.out; omega) (.slice cb cn cc) (.slice db dn dc) (.slice sb sn sc) (.slice eb en ec) (.int .i64 q.eng.base) (.int .i64 q.next) (.slice ab an ac))
     have HRL := hid (fun w0 => HC3.out.told (w0 := w0) (.slice cb cn cc) (.slice db dn dc) (.slice sb sn sc) (.slice eb en ec) (.int .i64 q.eng.base) (.int .i64 q.next) (.slice ab an ac))
     clear hno
     go_wp2
     refine bodyPost_ret (catch_results _ (w.heap.size + 1) _ rfl HBF.out) rfl ?_
     exact ⟨_, rfl, fun w0 => by rw [← HST.out]; exact ⟨_, _, _, _, _, _, _, _, _, _, _, _, _, _, _, _, rfl, HRL.out w0⟩, HBL.out⟩
   · have HNX := hid (HCO.out.is.next hj hyes)
     have hjn : j < an := by rw [HAN.out]; exact hj
     have j0 : ¬ (j : Int) < 0 := by omega
     have j1 : (j : Int) < (an : Int) := by omega
     have j2 : (0 : Int) ≤ (j : Int) := by omega
     have hroom := HCO.out.is.room
     have hright := HCO.out.is.early _ (getD_mem hj)
     have HRD := hid hright.2.2.2
     have hsix := hright.2.2.1
     have HGO := hid HCO.out.goal
     have hjS : j < S.length := by rw [HC3.out.early.slots.1]; exact hj
     have HJ := hid hj
     obtain ⟨b1, o1, rfl, hrun⟩ : ∃ b1 o1, ab = some ⟨b1, o1, none⟩ ∧ Run W3 b1 o1 (flat eslotC S) := by
       rcases HC3.out.early.lies.run with h | h
       · omega
       · exact h
     obtain ⟨s, k1, hsx⟩ : ∃ s : ESlot, W3.cell? ⟨b1, o1 + j * 2 + 1, none⟩ = some (.slice s.2.1 s.2.2.1 s.2.2.2) ∧ DeedsIn W3 s.2.1 s.2.2.1 s.2.2.2 (q.early.getD j default).2 :=
       ⟨S.getD j default, hrun.at_ eslotC_length hjS (j := 1) rfl, (HC3.out.early.slots.are.2 j hj).2⟩
     obtain ⟨si, pb, pn, pc⟩ := s
     simp only at k1 hsx
     have HSX := hid hsx
     have hb1 : b1 < W3.heap.size := by simpa using World.block_lt_of_cell? _ _ k1
     have PA : Hid (∀ W, Below W3.heap.size W3 W → Calls Tryz.prog 52 #[.agg (engA cb cn cc db dn dc sb sn sc eb en ec q.eng.base), .slice pb pn pc] W fun x w' => AddToldK W w' q.eng (q.early.getD j default).2 x) := fun W hW =>
       planAdd_callsK HCO.out.is.eng (q.early.getD j default).2 (by omega) _ pb pn pc W ⟨_, _, _, _, _, _, _, _, _, _, _, _, rfl, HC3.out.lies.below hW⟩ (hsx.below hW)
     clear hrun hsx hright hsix hroom hyes HCO
     have HBS : Hid ((addAll q.eng (q.early.getD j default).2).base = q.eng.base) := addAll_base _ _
     generalize (q.early.getD j default).2 = l at *
     have B0 := hid (step_drew (Below.refl W3.heap.size W3))
     go_upto_region 4 with fail
     go_cut [4, 5] (fun pv ev wx => ∃ b4 B4 cb4 cn4 cc4 db4 dn4 dc4 sb4 sn4 sc4 eb4 en4 ec4, pv = .pointer (some ⟨b4, 0, none⟩) ∧ ev = .int .i64 0 ∧ Hid (Box wx b4 (engA cb4 cn4 cc4 db4 dn4 dc4 sb4 sn4 sc4 eb4 en4 ec4 q.eng.base) 33) ∧ Hid (EngOwn wx B4 cb4 cn4 cc4 (.slice db4 dn4 dc4) (.slice sb4 sn4 sc4) (.slice eb4 en4 ec4) (addAll q.eng l)) ∧ Hid (Below W3.heap.size W3 wx))
     case first =>
       have HS1 : Hid ((fun w' => w'.cell? ⟨w.heap.size, 0, none⟩ = some (.slice cb cn cc) ∧ w'.cell? ⟨w.heap.size, 1, none⟩ = some (.slice db dn dc) ∧ w'.cell? ⟨w.heap.size, 2, none⟩ = some (.slice sb sn sc) ∧ w'.cell? ⟨w.heap.size, 3, none⟩ = some (.slice eb en ec) ∧ w'.cell? ⟨w.heap.size, 4, none⟩ = some (.int .i64 q.eng.base) ∧ w'.cell? ⟨w.heap.size, 6, none⟩ = some (.slice (some ⟨b1, o1, none⟩) an ac) ∧ w'.cell? ⟨b1, o1 + j * 2 + 1, none⟩ = some (.slice pb pn pc) ∧ Below W3.heap.size W3 w') W3.drew) :=
         ⟨kept_cell B0.out x0, kept_cell B0.out x1, kept_cell B0.out x2, kept_cell B0.out x3, kept_cell B0.out x4, kept_cell B0.out x6, kept_cell B0.out k1, B0.out⟩
       have HS2 : Hid ((fun w' => w'.cell? ⟨w.heap.size, 0, none⟩ = some (.slice cb cn cc) ∧ w'.cell? ⟨w.heap.size, 1, none⟩ = some (.slice db dn dc) ∧ w'.cell? ⟨w.heap.size, 2, none⟩ = some (.slice sb sn sc) ∧ w'.cell? ⟨w.heap.size, 3, none⟩ = some (.slice eb en ec) ∧ w'.cell? ⟨w.heap.size, 4, none⟩ = some (.int .i64 q.eng.base) ∧ w'.cell? ⟨w.heap.size, 6, none⟩ = some (.slice (some ⟨b1, o1, none⟩) an ac) ∧ w'.cell? ⟨b1, o1 + j * 2 + 1, none⟩ = some (.slice pb pn pc) ∧ Below W3.heap.size W3 w') W3) :=
         ⟨x0, x1, x2, x3, x4, x6, k1, Below.refl _ _⟩
       go_region_held3 (fun w' => w'.cell? ⟨w.heap.size, 0, none⟩ = some (.slice cb cn cc) ∧ w'.cell? ⟨w.heap.size, 1, none⟩ = some (.slice db dn dc) ∧ w'.cell? ⟨w.heap.size, 2, none⟩ = some (.slice sb sn sc) ∧ w'.cell? ⟨w.heap.size, 3, none⟩ = some (.slice eb en ec) ∧ w'.cell? ⟨w.heap.size, 4, none⟩ = some (.int .i64 q.eng.base) ∧ w'.cell? ⟨w.heap.size, 6, none⟩ = some (.slice (some ⟨b1, o1, none⟩) an ac) ∧ w'.cell? ⟨b1, o1 + j * 2 + 1, none⟩ = some (.slice pb pn pc) ∧ Below W3.heap.size W3 w')
         (first
           | with_reducible exact HS1.out
           | with_reducible exact eight_keep HS2.out ((grew _ _).drew)
           | with_reducible exact eight_keep HS2.out hbA
           | with_reducible exact eight_keep HS2.out (below_deep hbA (grew _ _))
           | with_reducible exact eight_keep HS2.out (hbA.trans (low_five (Nat.le_refl _) _ _ _ _ _)))
         (first
           | (go_at_call 52; refine (PA.out _ ?_).mono ?_; exact eight_held (by assumption); rintro x w4 ⟨⟨_, _, _, hb4⟩, hown⟩; obtain ⟨B4, cb4, cn4, cc4, v1, v2, v3, rfl, he4⟩ := hown HRD.out; obtain ⟨db4, dc4, sb4, sc4, eb4, ec4, rfl, rfl, rfl, -⟩ := he4.lies; (first | (have hbA : Below W3.heap.size W3 w4 := (by with_reducible exact below_deep B0.out hb4)) | (have hbA : Below W3.heap.size W3 w4 := (by with_reducible exact below_deep ((grew _ _).drew) hb4))); (first | (have HZ4 : Hid (Box w4 W3.heap.size (engA none 0 0 none 0 0 none 0 0 none 0 0 0) 33) := (by with_reducible exact hid ((boxnew_drew W3 _ _).below hb4)); have z0 := HZ4.out.cells5.1; have z1 := HZ4.out.cells5.2.1; have z2 := HZ4.out.cells5.2.2.1; have z3 := HZ4.out.cells5.2.2.2.1; have z4 := HZ4.out.cells5.2.2.2.2; have f0 := HZ4.out.free 0; have f1 := HZ4.out.free 1; have f2 := HZ4.out.free 2; have f3 := HZ4.out.free 3; have f4 := HZ4.out.free 4; have hzl := HZ4.out.lt) | skip)))
       all_goals first
         | (go_wp2; go_meet; with_reducible exact ⟨_, _, _, _, _, _, _, _, _, _, _, _, _, _, rfl, rfl, hid (Box.new _ _ _), hid (he4.below (grew _ _)), hid (below_deep hbA (grew _ _))⟩)
         | (go_wp2; go_meet; with_reducible exact ⟨_, _, _, _, _, _, _, _, _, _, _, _, _, _, rfl, rfl, hid (box_five HZ4.out _ _ _ _ _), hid (he4.put HZ4.out (off_five _ _ _ _ _ _ _)), hid (hbA.trans (low_five (Nat.le_refl _) _ _ _ _ _))⟩)
     case rest =>
       obtain ⟨b4, B4, cb4, cn4, cc4, db4, dn4, dc4, sb4, sn4, sc4, eb4, en4, ec4, rfl, rfl, HB4, HE4, HBX⟩ := hcut
       have HCX := hid (HC3.out.later HBX.out)
       clear x0 x1 x2 x3 x4 x5 x6 hl0 hl1 k1 hb1 HC3 PA HSX B0
       obtain ⟨x0, x1, x2, x3, x4, x5, x6⟩ := HCX.out.box.cells7
       obtain ⟨e0, e1, e2, e3, e4⟩ := HB4.out.cells5
       have hl0 : w.heap.size < wc.heap.size := HCX.out.box.lt
       have hl4 : b4 < wc.heap.size := HB4.out.lt
       have PD : Hid (∀ W, W.ownsRow B 26 2 (.slice (some ⟨b1, o1, none⟩) an ac) an (flat eslotC S) → Calls Tryz.prog 53 #[.slice (some ⟨b1, o1, none⟩) an ac, .int .i64 j, .int .i64 ((j : Int) + 1)] W fun e w2 => ∃ v2, e = .returned v2 ∧ w2.ownsRow B 26 2 v2 (an - 1) (flat eslotC (S.take j ++ S.drop (j + 1))) ∧ W.grownBy w2 (Value.slice (some ⟨b1, o1, none⟩) an ac).ownBlock) := fun W hW => by
         obtain ⟨N, rfl⟩ : ∃ N, an = N + 1 := ⟨an - 1, by omega⟩
         exact delete_calls S j N B _ W (by omega) hW
       have HDX := hid (step_drew (Below.refl wc.heap.size wc))
       go_upto_region 7 with fail
       have hw1 : IntKind.i64.wrap ((j : Int) + 1) = (j : Int) + 1 := by rw [IntKind.wrap_i64]; omega
       have hw2 : IntKind.i64.wrap (q.next + 1) = q.next + 1 := by rw [IntKind.wrap_i64]; omega
       go_region_with ((go_at_call 53; refine (PD.out _ (owns_keep HCX.out.early.row HDX.out)).mono ?_; rintro _ w6 ⟨v6, rfl, ho6, hg6⟩; obtain ⟨ab6, ac6, rfl, hl6⟩ := Lies.owned ho6; have hoW := owns_keep HCX.out.early.row HDX.out; have HX6 := hid ((HCX.out.box.below HDX.out).grownE (by decide) hoW hg6); have HE6 := hid ((HB4.out.below HDX.out).grownE (by decide) hoW hg6); obtain ⟨y0, y1, y2, y3, y4, y5, y6⟩ := HX6.out.cells7; obtain ⟨f0, f1, f2, f3, f4, f5, f6⟩ := HX6.out.free7; obtain ⟨u0, u1, u2, u3, u4⟩ := HE6.out.cells5; have hxl := HX6.out.lt; have hel := HE6.out.lt))
       all_goals
         have HCN := hid (HCX.out.next (show w.heap.size + 1 ≠ w.heap.size by omega) HNB.out HJ.out HDX.out HE4.out (q.next + 1) ho6 hg6)
         rw [HBS.out] at HCN
         have HCP : Hid (CatchOf (D ++ l) m dq bq F ⟨addAll q.eng l, q.next + 1, q.early.take j ++ q.early.drop (j + 1)⟩) := ⟨HNX.out.1, HNX.out.2.symm.trans HGO.out⟩
         unfold put7 at HCN
         clear ho6 hg6 hl6 hoW
         go_wp2
         go_roundw
         case rel => exact ⟨_, _, _, _, _, _, _, _, _, _, _, _, _, _, _, _, _, _, HCN, HCP⟩
         case measure => rw [early_len HCN.out.box]; omega
end Go.Proofs.YtlhaeeenkgkdaaaGreatDoor
