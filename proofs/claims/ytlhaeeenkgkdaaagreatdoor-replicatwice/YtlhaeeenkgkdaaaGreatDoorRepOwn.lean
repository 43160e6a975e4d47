/-
  Plain mathematics of how the program catches up: an entry that is next is kept first, then those that are next are planned, one by one.
  Entries and replicas whose rows a call owns; the program's 'with' and Own of replicas.
-/
import Derived.Test.YtlhaeeenkgkdaaaGreatDoorRepFinds
import Derived.Test.YtlhaeeenkgkdaaaGreatDoorRefSameR
import Derived.Test.YtlhaeeenkgkdaaaGreatDoorPlanOwn
import Derived.Test.YtlhaeeenkgkdaaaGreatDoorComeIn
import Derived.Deep.RegionWith
namespace Go.Proofs.YtlhaeeenkgkdaaaGreatDoor
open Go.RowKit

structure Catch (D : List Deed3) (m : Nat) (dn : Nat → Bool) (b : ByteArray → Int) (q : Rep) : Prop where
 eng : Good [] D m dn b q.eng
 room : D.length + 6 * q.early.length ≤ 1000
 lo : 0 ≤ q.next
 hi : q.next + q.early.length ≤ 1000
 one : q.early.Pairwise (fun x y => x.1 ≠ y.1)
 early : ∀ x ∈ q.early, RightEnt x
theorem getD_mem {L : List Ent} {j : Nat} (h : j < L.length) : L.getD j default ∈ L := by
 have : L.getD j default = L[j] := by simp [List.getD, h]
 rw [this]; exact List.getElem_mem h
theorem without_len {α : Type} {L : List α} {j : Nat} (h : j < L.length) : (L.take j ++ L.drop (j + 1)).length + 1 = L.length := by
 rw [List.length_append, List.length_take, List.length_drop]; omega
theorem without_sub {α : Type} (L : List α) (j : Nat) : (L.take j ++ L.drop (j + 1)).Sublist L := by
 have h1 : L.take j ++ L.drop j = L := List.take_append_drop j L
 have h2 : (L.drop (j + 1)).Sublist (L.drop j) := List.drop_sublist_drop_left L (Nat.le_succ j)
 have h3 := (List.Sublist.refl (L.take j)).append h2
 rw [h1] at h3
 exact h3
theorem Catch.stop {q : Rep} (h : ∀ j, j < q.early.length → (q.early.getD j default).1 ≠ q.next) (f : Nat) : pullR f q = q := pull_none (find_none h)
theorem Catch.next {D : List Deed3} {m : Nat} {dn : Nat → Bool} {b : ByteArray → Int} {q : Rep} (h : Catch D m dn b q) {j : Nat} (hj : j < q.early.length) (hn : (q.early.getD j default).1 = q.next) :
   Catch (D ++ (q.early.getD j default).2) m dn b ⟨addAll q.eng (q.early.getD j default).2, q.next + 1, q.early.take j ++ q.early.drop (j + 1)⟩ ∧
     pullR q.early.length q = pullR (q.early.take j ++ q.early.drop (j + 1)).length ⟨addAll q.eng (q.early.getD j default).2, q.next + 1, q.early.take j ++ q.early.drop (j + 1)⟩ := by
 have hr := h.early _ (getD_mem hj)
 have hl := without_len hj
 have h1 := h.room
 have h2 := h.lo
 have h3 := h.hi
 obtain ⟨f1, f2⟩ := find_here hj hn h.one
 refine ⟨⟨h.eng.addAll hr.2.2.2, ?_, ?_, ?_, h.one.sublist (without_sub _ _), fun x hx => h.early x ((without_sub _ _).subset hx)⟩, ?_⟩
 · have := hr.2.2.1
   simp only [List.length_append] at this ⊢ hl
   omega
 · show 0 ≤ q.next + 1
   omega
 · show q.next + 1 + _ ≤ 1000
   simp only at hl ⊢
   omega
 · obtain ⟨eng, nx, ea⟩ := q
   simp only at hl hj hn f1 f2 ⊢
   rw [← hl, pull_some f1, f2]
theorem catch_next {es : List Ent} {m : Nat} {dn : Nat → Bool} {b : ByteArray → Int} {r : Rep} (h : GoodR es m dn b r) {e : Ent} (he : RightEnt e) (hh : hadR r e = false) (hn : e.1 = r.next) :
   Catch (deedsOf es) m dn b ⟨r.eng, r.next, r.early ++ [e]⟩ ∧ comeR r e = (pullR (r.early ++ [e]).length ⟨r.eng, r.next, r.early ++ [e]⟩, 0) := by
 have h1 := h.few
 have h2 := h.most
 have h3 := h.four
 have h4 := h.next
 have hw : Catch (deedsOf es) m dn b ⟨r.eng, r.next, r.early ++ [e]⟩ := by
   refine ⟨h.eng, ?_, ?_, ?_, ?_, fun x hx => ?_⟩
   · simp; omega
   · show 0 ≤ r.next; omega
   · simp; omega
   · show (r.early ++ [e]).Pairwise _
     rw [List.pairwise_append]
     refine ⟨h.one, List.pairwise_singleton _ _, fun x hx y hy => ?_⟩
     simp at hy
     have := h.later x hx
     rw [hy, hn, h4]; omega
   · rcases List.mem_append.1 hx with hx | hx
     · exact h.early x hx
     · simp at hx; rw [hx]; exact he
 have hj : r.early.length < (r.early ++ [e]).length := by simp
 have hg : (r.early ++ [e]).getD r.early.length default = e := by simp [List.getD]
 have ht : (r.early ++ [e]).take r.early.length = r.early := by simp
 have hd : (r.early ++ [e]).drop (r.early.length + 1) = [] := by simp
 have := (hw.next (q := ⟨r.eng, r.next, r.early ++ [e]⟩) (j := r.early.length) hj (by show ((r.early ++ [e]).getD _ _).1 = r.next; rw [hg]; exact hn)).2
 refine ⟨hw, ?_⟩
 simp only [hg, ht, hd, List.append_nil] at this
 rw [this]
 unfold comeR
 rw [if_neg (by rw [hh]; simp), if_neg (by omega)]
theorem come_early {r : Rep} {e : Ent} (hh : hadR r e = false) (hn : r.next < e.1) : comeR r e = if 4 ≤ r.early.length then (r, 5) else (⟨r.eng, r.next, r.early ++ [e]⟩, 12) := by
 unfold comeR
 rw [if_neg (by rw [hh]; simp), if_pos hn]
theorem come_had2 {r : Rep} {e : Ent} (hh : hadR r e = true) : comeR r e = (r, 11) := by
 unfold comeR
 rw [if_pos hh]
end Go.Proofs.YtlhaeeenkgkdaaaGreatDoor

namespace Go.Proofs.YtlhaeeenkgkdaaaGreatDoor
open Go.RowKit

theorem few_deeds {D : List Deed3} (h : RightDs D) : FewD 1048576 D := fun j hj => by
 have hd : D.getD j default ∈ D := by
   have : D.getD j default = D[j] := by simp [List.getD, hj]
   rw [this]; exact List.getElem_mem hj
 have hr := h _ hd
 have h1 := wKeys_len hr.r
 have h2 := wKeys_len hr.w
 have h3 := hr.c
 omega
theorem few_ents {L : List Ent} (h : ∀ x ∈ L, RightEnt x) : FewE 1048576 L := fun i hi => by
 have hx := h _ (getD_mem hi)
 exact ⟨Nat.le_trans hx.2.2.1 (by decide), few_deeds hx.2.2.2⟩
theorem ESlotK.off {w w' : World} {b : Nat} {cs : Array Value} {t : TypeId} {s : ESlot} {x : Ent} (h : ESlotK w s x) (hb : Box w b cs t) (h1 : 9 ≠ t) (h2 : 72 ≠ t) (h3 : 44 ≠ t) (ho : Off b w w') : ESlotK w' s x := by
 obtain ⟨k1, k2, T, k3, k4⟩ := h
 exact ⟨k1, k2.off ho (kind_ne hb k2 h3), T, k3.off ho (.inr (kind_ne hb k2 h3)), k4.off hb h1 h2 ho⟩
theorem ESlotsK.off {w w' : World} {b : Nat} {cs : Array Value} {t : TypeId} {S : List ESlot} {L : List Ent} (h : ESlotsK w S L) (hb : Box w b cs t) (h1 : 9 ≠ t) (h2 : 72 ≠ t) (h3 : 44 ≠ t) (ho : Off b w w') : ESlotsK w' S L := ⟨h.1, fun i hi => (h.2 i hi).off hb h1 h2 h3 ho⟩
theorem ESlotsK.without {w : World} {S : List ESlot} {L : List Ent} (h : ESlotsK w S L) {j : Nat} (hj : j < L.length) : ESlotsK w (S.take j ++ S.drop (j + 1)) (L.take j ++ L.drop (j + 1)) := by
 have hs := h.1
 have hjS : j < S.length := by rw [hs]; exact hj
 refine ⟨by simp; omega, fun i hi => ?_⟩
 rw [getD_without S _ hjS, getD_without L _ hj]
 have hi' : i < L.length - 1 := by simp at hi; omega
 split
 · exact h.2 i (by omega)
 · exact h.2 (i + 1) (by omega)
theorem ESlotsK.at {w0 w : World} {S : List ESlot} {L : List Ent} (h : ESlotsK w S L) : ESlotsAt w0 w S L :=
 ⟨h.1, fun i hi => ⟨(h.2 i hi).1, .inr ⟨(h.2 i hi).2.1, (h.2 i hi).is.2⟩⟩⟩
structure EarlyOwn (w : World) (B : Nat) (ab : Option Addr) (an ac : Nat) (S : List ESlot) (L : List Ent) : Prop where
 row : w.ownsRow B 26 2 (.slice ab an ac) an (flat eslotC S)
 slots : ESlotsK w S L
theorem EarlyOwn.below {w w' : World} {ab : Option Addr} {B an ac : Nat} {S : List ESlot} {L : List Ent} (h : EarlyOwn w B ab an ac S L) (hb : Below w.heap.size w w') : EarlyOwn w' B ab an ac S L := ⟨owns_keep h.row hb, h.slots.below hb⟩
theorem EarlyOwn.put {w w' : World} {B b : Nat} {cs : Array Value} {t : TypeId} {ab : Option Addr} {an ac : Nat} {S : List ESlot} {L : List Ent} (h : EarlyOwn w B ab an ac S L) (hb : Box w b cs t) (h0 : 26 ≠ t) (h1 : 9 ≠ t) (h2 : 72 ≠ t) (h3 : 44 ≠ t) (ho : Off b w w') : EarlyOwn w' B ab an ac S L :=
 ⟨owns_off h.row ho (own_ne h.row hb (Ne.symm h0)), h.slots.off hb h1 h2 h3 ho⟩
theorem EarlyOwn.lower {w : World} {ab : Option Addr} {B B' an ac : Nat} {S : List ESlot} {L : List Ent} (h : EarlyOwn w B ab an ac S L) (hB : B' ≤ B) : EarlyOwn w B' ab an ac S L := ⟨owns_lower h.row hB, h.slots⟩
theorem EarlyOwn.lies {w : World} {ab : Option Addr} {B an ac : Nat} {S : List ESlot} {L : List Ent} (h : EarlyOwn w B ab an ac S L) : Lies w 2 ab an ac (flat eslotC S) := by
 obtain ⟨b', c', e', h⟩ := Lies.owned h.row
 simp only [Value.slice.injEq, true_and] at e'
 obtain ⟨e1, e2⟩ := e'
 rw [e1, e2]; exact h
theorem EarlyOwn.ents {w : World} {ab : Option Addr} {B an ac : Nat} {S : List ESlot} {L : List Ent} (h : EarlyOwn w B ab an ac S L) : EntsIn w ab an ac L := ents_of_slots h.lies h.slots.are
theorem EarlyOwn.len {w : World} {ab : Option Addr} {B an ac : Nat} {S : List ESlot} {L : List Ent} (h : EarlyOwn w B ab an ac S L) : an = L.length := h.ents.len
theorem EarlyOwn.parts {w0 w : World} {cb db sb eb ab : Option Addr} {B cn cc dn dc sn sc en ec an ac : Nat} {S : List ESlot} {r : Rep} (h : EarlyOwn w B ab an ac S r.early) (he : EngLies w cb cn cc db dn dc sb sn sc eb en ec r.eng) : RepParts w0 w cb cn cc db dn dc sb sn sc eb en ec ab an ac S r :=
 ⟨he, h.lies, h.slots.at, Kind.owned h.row⟩

theorem with_results (tmps : Array Value) (b : Nat) (w : World) {a0 a1 a2 a3 a6 : Option Addr} {n0 n1 n2 n3 n6 c0 c1 c2 c3 c6 : Nat} {z y : Int} (h : tmps.getD 4 undef = .pointer (some ⟨b, 0, none⟩)) (hb : Box w b (repA a0 n0 c0 a1 n1 c1 a2 n2 c2 a3 n3 c3 z y a6 n6 c6) 35) :
   (results Tryz.f29 tmps).run Tryz.prog w = .ok (.agg (repA a0 n0 c0 a1 n1 c1 a2 n2 c2 a3 n3 c3 z y a6 n6 c6)) w := by
 have h' : tmps[4]?.getD undef = .pointer (some ⟨b, 0, none⟩) := by simpa using h
 obtain ⟨k0, k1, k2, k3, k4, k5, k6⟩ := hb.cells7
 simp [results, Tryz.results29, go_sem, h', k0, k1, k2, k3, k4, k5, k6]
def WithTold (w w' : World) (cb : Option Addr) (cn cc : Nat) (db : Option Addr) (dn dc : Nat) (sb : Option Addr) (sn sc : Nat) (eb : Option Addr) (en ec : Nat) (base next : Int) (an : Nat) (L : List Ent) (x : Ending) : Prop :=
 ∃ ab ac S, x = .returned (.agg (repA cb cn cc db dn dc sb sn sc eb en ec base next ab an ac)) ∧ EarlyOwn w' w.heap.size ab an ac S L ∧ Below w.heap.size w w'

set_option maxHeartbeats 8000000 in
set_option maxRecDepth 100000 in
theorem withR_calls (cb : Option Addr) (cn cc : Nat) (db : Option Addr) (dn dc : Nat) (sb : Option Addr) (sn sc : Nat) (eb : Option Addr) (en ec : Nat) (base next : Int) (ab : Option Addr) (an ac : Nat) (cb2 : Option Addr) (cn2 cc2 : Nat) (db2 : Option Addr) (dn2 dc2 : Nat) (sb2 : Option Addr) (sn2 sc2 : Nat) (eb2 : Option Addr) (en2 ec2 : Nat) (base2 : Int) (L : List Ent) (w : World)
   (ha : EntsIn w ab an ac L) (hn : an ≤ 1048576) (hr : ∀ x ∈ L, RightEnt x) :
   Calls Tryz.prog 29 #[.agg (repA cb cn cc db dn dc sb sn sc eb en ec base next ab an ac), .agg (engA cb2 cn2 cc2 db2 dn2 dc2 sb2 sn2 sc2 eb2 en2 ec2 base2)] w fun x w' => WithTold w w' cb2 cn2 cc2 db2 dn2 dc2 sb2 sn2 sc2 eb2 en2 ec2 base2 next an L x := by
 have PO := hid (fun W h => logOwn_callsO L ab an ac W hn (few_ents hr) h)
 have HA := hid ha
 have HX0 := hid (Box.new w (repA cb cn cc db dn dc sb sn sc eb en ec base next ab an ac) 35)
 have HG0 := hid (grew w (.cells (repA cb cn cc db dn dc sb sn sc eb en ec base next ab an ac) 35))
 have HE0 := hid (Box.new (w.alloc (.cells (repA cb cn cc db dn dc sb sn sc eb en ec base next ab an ac) 35)) (engA cb2 cn2 cc2 db2 dn2 dc2 sb2 sn2 sc2 eb2 en2 ec2 base2) 33)
 have HG1 := hid (grew (w.alloc (.cells (repA cb cn cc db dn dc sb sn sc eb en ec base next ab an ac) 35)) (.cells (engA cb2 cn2 cc2 db2 dn2 dc2 sb2 sn2 sc2 eb2 en2 ec2 base2) 33))
 have HZ0 := hid (Box.new ((w.alloc (.cells (repA cb cn cc db dn dc sb sn sc eb en ec base next ab an ac) 35)).alloc (.cells (engA cb2 cn2 cc2 db2 dn2 dc2 sb2 sn2 sc2 eb2 en2 ec2 base2) 33)) nilR 35)
 have HG2 := hid (grew ((w.alloc (.cells (repA cb cn cc db dn dc sb sn sc eb en ec base next ab an ac) 35)).alloc (.cells (engA cb2 cn2 cc2 db2 dn2 dc2 sb2 sn2 sc2 eb2 en2 ec2 base2) 33)) (.cells nilR 35))
 rw [World.size_alloc] at HE0 HZ0
 rw [World.size_alloc] at HZ0
 have HXA := hid (HX0.out.below (below_deep HG1.out HG2.out))
 have HEA := hid (HE0.out.below HG2.out)
 have HBA := hid (below_deep HG0.out (below_deep HG1.out HG2.out))
 clear ha HX0 HE0 HG0 HG1 HG2
 go_enter Tryz.func29, Tryz.ntmps29
 go_upto_region 1 with fail
 generalize ((w.alloc (.cells (repA cb cn cc db dn dc sb sn sc eb en ec base next ab an ac) 35)).alloc (.cells (engA cb2 cn2 cc2 db2 dn2 dc2 sb2 sn2 sc2 eb2 en2 ec2 base2) 33)).alloc (.cells nilR 35) = A at *
 have hl0 : w.heap.size < A.heap.size := HXA.out.lt
 have hl1 : w.heap.size + 1 < A.heap.size := HEA.out.lt
 have hl2 : w.heap.size + 1 + 1 < A.heap.size := HZ0.out.lt
 have B0 := hid (step_drew (Below.refl A.heap.size A))
 obtain ⟨-, -, -, -, -, x5, x6⟩ := HXA.out.cells7
 obtain ⟨e0, e1, e2, e3, e4⟩ := HEA.out.cells5
 go_region_with ((go_at_call 50; refine (PO.out _ (HA.out.below (below_deep HBA.out B0.out))).mono ?_; rintro _ w5 ⟨v5, S, rfl, ho5, hs5, hb5⟩; obtain ⟨ab5, ac5, rfl, hl5⟩ := Lies.owned ho5; have hb5' : Below A.heap.size A w5 := (by with_reducible exact below_deep B0.out hb5); have y5 := (HXA.out.below hb5').cells7.2.2.2.2.2.1; have HE5 := hid (HEA.out.below hb5'); obtain ⟨e0', e1', e2', e3', e4'⟩ := HE5.out.cells5; have HZ5 := hid (HZ0.out.below hb5'); obtain ⟨z0, z1, z2, z3, z4, z5, z6⟩ := HZ5.out.cells7; obtain ⟨f0, f1, f2, f3, f4, f5, f6⟩ := HZ5.out.free7; have hl0' := Nat.lt_of_lt_of_le hl0 hb5'.size; have hl1' := Nat.lt_of_lt_of_le hl1 hb5'.size; have hl2' := Nat.lt_of_lt_of_le hl2 hb5'.size))
 all_goals
   have HBF := hid (put7_box HZ5.out (.slice cb2 cn2 cc2) (.slice db2 dn2 dc2) (.slice sb2 sn2 sc2) (.slice eb2 en2 ec2) (.int .i64 base2) (.int .i64 next) (.slice ab5 an ac5))
   have HBL := hid (put7_below (below_deep HBA.out hb5') (show w.heap.size ≤ w.heap.size + 1 + 1 by omega) (.slice cb2 cn2 cc2) (.slice db2 dn2 dc2) (.slice sb2 sn2 sc2) (.slice eb2 en2 ec2) (.int .i64 base2) (.int .i64 next) (.slice ab5 an ac5))
   have HEO := hid ((EarlyOwn.put ⟨ho5, hs5⟩ HZ5.out (by decide) (by decide) (by decide) (by decide) (put7_off w5 (w.heap.size + 1 + 1) (.slice cb2 cn2 cc2) (.slice db2 dn2 dc2) (.slice sb2 sn2 sc2) (.slice eb2 en2 ec2) (.int .i64 base2) (.int .i64 next) (.slice ab5 an ac5))).lower (B' := w.heap.size) (show w.heap.size ≤ A.heap.size by omega))
   clear ho5 hs5 hl5
   go_wp2
   refine bodyPost_ret (with_results _ (w.heap.size + 1 + 1) _ rfl HBF.out) rfl ?_
   exact ⟨_, _, _, rfl, HEO.out, HBL.out⟩

theorem ownR_results (tmps : Array Value) (b : Nat) (w : World) {a0 a1 a2 a3 a6 : Option Addr} {n0 n1 n2 n3 n6 c0 c1 c2 c3 c6 : Nat} {z y : Int} (h : tmps.getD 2 undef = .pointer (some ⟨b, 0, none⟩)) (hb : Box w b (repA a0 n0 c0 a1 n1 c1 a2 n2 c2 a3 n3 c3 z y a6 n6 c6) 35) :
   (results Tryz.f14 tmps).run Tryz.prog w = .ok (.agg (repA a0 n0 c0 a1 n1 c1 a2 n2 c2 a3 n3 c3 z y a6 n6 c6)) w := by
 have h' : tmps[2]?.getD undef = .pointer (some ⟨b, 0, none⟩) := by simpa using h
 obtain ⟨k0, k1, k2, k3, k4, k5, k6⟩ := hb.cells7
 simp [results, Tryz.results14, go_sem, h', k0, k1, k2, k3, k4, k5, k6]
structure RepOwn (w : World) (B : Nat) (cb : Option Addr) (cn cc : Nat) (db : Option Addr) (dn dc : Nat) (sb : Option Addr) (sn sc : Nat) (eb : Option Addr) (en ec : Nat) (ab : Option Addr) (an ac : Nat) (S : List ESlot) (r : Rep) : Prop where
 eng : EngOwn w B cb cn cc (.slice db dn dc) (.slice sb sn sc) (.slice eb en ec) r.eng
 early : EarlyOwn w B ab an ac S r.early
theorem EngOwn.lies2 {w : World} {cb db sb eb : Option Addr} {B cn cc dn dc sn sc en ec : Nat} {e : Eng} (h : EngOwn w B cb cn cc (.slice db dn dc) (.slice sb sn sc) (.slice eb en ec) e) : EngLies w cb cn cc db dn dc sb sn sc eb en ec e := by
 obtain ⟨db9, dc9, sb9, sc9, eb9, ec9, e1, e2, e3, h9⟩ := h.lies
 injection e1 with a1 a2 a3
 injection e2 with a4 a5 a6
 injection e3 with a7 a8 a9
 subst a1 a2 a3 a4 a5 a6 a7 a8 a9
 exact h9
theorem RepOwn.below {w w' : World} {cb db sb eb ab : Option Addr} {B cn cc dn dc sn sc en ec an ac : Nat} {S : List ESlot} {r : Rep} (h : RepOwn w B cb cn cc db dn dc sb sn sc eb en ec ab an ac S r) (hb : Below w.heap.size w w') : RepOwn w' B cb cn cc db dn dc sb sn sc eb en ec ab an ac S r := ⟨h.eng.below hb, h.early.below hb⟩
theorem RepOwn.parts {w0 w : World} {cb db sb eb ab : Option Addr} {B cn cc dn dc sn sc en ec an ac : Nat} {S : List ESlot} {r : Rep} (h : RepOwn w B cb cn cc db dn dc sb sn sc eb en ec ab an ac S r) : RepParts w0 w cb cn cc db dn dc sb sn sc eb en ec ab an ac S r := h.early.parts h.eng.lies2
theorem EngOwn.putR {w w' : World} {B b : Nat} {cs : Array Value} {cb : Option Addr} {cn cc : Nat} {v1 v2 v3 : Value} {e : Eng} (h : EngOwn w B cb cn cc v1 v2 v3 e) (hb : Box w b cs 35) (ho : Off b w w') : EngOwn w' B cb cn cc v1 v2 v3 e := by
 obtain ⟨h1, ⟨T, h2, h2'⟩, h3, h4⟩ := h
 exact ⟨h1.off hb (by decide) (by decide) ho, ⟨T, owns_off h2 ho (own_ne h2 hb (by decide)), h2'.off hb (by decide) (by decide) ho⟩, owns_off h3 ho (own_ne h3 hb (by decide)), owns_off h4 ho (own_ne h4 hb (by decide))⟩
theorem RepOwn.put {w w' : World} {B b : Nat} {cs : Array Value} {cb db sb eb ab : Option Addr} {cn cc dn dc sn sc en ec an ac : Nat} {S : List ESlot} {r : Rep} (h : RepOwn w B cb cn cc db dn dc sb sn sc eb en ec ab an ac S r) (hb : Box w b cs 35) (ho : Off b w w') : RepOwn w' B cb cn cc db dn dc sb sn sc eb en ec ab an ac S r :=
 ⟨h.eng.putR hb ho, h.early.put hb (by decide) (by decide) (by decide) (by decide) ho⟩
def OwnToldR (w w' : World) (r : Rep) (x : Ending) : Prop := ∃ cb cn cc db dn dc sb sn sc eb en ec ab an ac S, x = .returned (.agg (repA cb cn cc db dn dc sb sn sc eb en ec r.eng.base r.next ab an ac)) ∧ RepOwn w' w.heap.size cb cn cc db dn dc sb sn sc eb en ec ab an ac S r ∧ Below w.heap.size w w'

set_option maxHeartbeats 8000000 in
set_option maxRecDepth 100000 in
theorem ownR_calls {es : List Ent} {m : Nat} {dq : Nat → Bool} {bq : ByteArray → Int} {r : Rep} (h : GoodR es m dq bq r) (rv : Value) (w : World) (hr : RepIn w rv r) :
   Calls Tryz.prog 14 #[rv] w fun x w' => OwnToldR w w' r x := by
 obtain ⟨cb, cn, cc, db, dn, dc, sb, sn, sc, eb, en, ec, ab, an, ac, rfl, hl⟩ := hr
 have hfew : (deedsOf es).length ≤ 1954687338211 := Nat.le_trans h.few (by decide)
 have han : an ≤ 1048576 := by rw [hl.early.len]; exact Nat.le_trans h.four (by decide)
 have PE := hid (fun W hv => planOwn_calls h.eng hfew (.agg (engA cb cn cc db dn dc sb sn sc eb en ec r.eng.base)) W hv)
 have PW := hid (fun cb2 cn2 cc2 db2 dn2 dc2 sb2 sn2 sc2 eb2 en2 ec2 W hv => withR_calls cb cn cc db dn dc sb sn sc eb en ec r.eng.base r.next ab an ac cb2 cn2 cc2 db2 dn2 dc2 sb2 sn2 sc2 eb2 en2 ec2 r.eng.base r.early W hv han h.early)
 have HL := hid hl
 have HX0 := hid (Box.new w (repA cb cn cc db dn dc sb sn sc eb en ec r.eng.base r.next ab an ac) 35)
 have HG0 := hid (grew w (.cells (repA cb cn cc db dn dc sb sn sc eb en ec r.eng.base r.next ab an ac) 35))
 have HZ0 := hid (Box.new (w.alloc (.cells (repA cb cn cc db dn dc sb sn sc eb en ec r.eng.base r.next ab an ac) 35)) nilR 35)
 have HG1 := hid (grew (w.alloc (.cells (repA cb cn cc db dn dc sb sn sc eb en ec r.eng.base r.next ab an ac) 35)) (.cells nilR 35))
 rw [World.size_alloc] at HZ0
 have HXA := hid (HX0.out.below HG1.out)
 have HBA := hid (below_deep HG0.out HG1.out)
 clear h hl HX0 HG0 HG1 hfew han
 go_enter Tryz.func14, Tryz.ntmps14
 go_upto_region 1 with fail
 generalize (w.alloc (.cells (repA cb cn cc db dn dc sb sn sc eb en ec r.eng.base r.next ab an ac) 35)).alloc (.cells nilR 35) = A at *
 have hl0 : w.heap.size < A.heap.size := HXA.out.lt
 have hl1 : w.heap.size + 1 < A.heap.size := HZ0.out.lt
 have B0 := hid (step_drew (Below.refl A.heap.size A))
 obtain ⟨x0, x1, x2, x3, x4, x5, x6⟩ := HXA.out.cells7
 go_region_with (first
   | (go_at_call 33; refine (PE.out _ ⟨_, _, _, _, _, _, _, _, _, _, _, _, rfl, HL.out.eng.below (below_deep HBA.out B0.out)⟩).mono ?_; rintro _ w5 ⟨cb2, cn2, cc2, v1, v2, v3, rfl, he5, hb5⟩; obtain ⟨db2, dc2, sb2, sc2, eb2, ec2, rfl, rfl, rfl, -⟩ := he5.lies; have hb5' : Below A.heap.size A w5 := (by with_reducible exact below_deep B0.out hb5); obtain ⟨x0', x1', x2', x3', x4', x5', x6'⟩ := (HXA.out.below hb5').cells7; have hl0' := Nat.lt_of_lt_of_le hl0 hb5'.size)
   | (go_at_call 29; refine (PW.out _ _ _ _ _ _ _ _ _ _ _ _ w5 (HL.out.early.below (below_deep HBA.out hb5'))).mono ?_; rintro _ w6 ⟨ab2, ac2, S2, rfl, ho6, hb6⟩; have hb6' : Below A.heap.size A w6 := (by with_reducible exact below_deep hb5' hb6); have HZ6 := hid (HZ0.out.below hb6'); obtain ⟨z0, z1, z2, z3, z4, z5, z6⟩ := HZ6.out.cells7; obtain ⟨f0, f1, f2, f3, f4, f5, f6⟩ := HZ6.out.free7; have hl1' := Nat.lt_of_lt_of_le hl1 hb6'.size))
 all_goals
   have hsz : w.heap.size ≤ w5.heap.size := Nat.le_trans (by omega : w.heap.size ≤ A.heap.size) hb5'.size
   have HBF := hid (put7_box HZ6.out (.slice cb2 cn2 cc2) (.slice db2 r.eng.deeds.length dc2) (.slice sb2 r.eng.state.length sc2) (.slice eb2 r.eng.ends.length ec2) (.int .i64 r.eng.base) (.int .i64 r.next) (.slice ab2 an ac2))
   have HBL := hid (put7_below (below_deep HBA.out hb6') (Nat.le_succ _) (.slice cb2 cn2 cc2) (.slice db2 r.eng.deeds.length dc2) (.slice sb2 r.eng.state.length sc2) (.slice eb2 r.eng.ends.length ec2) (.int .i64 r.eng.base) (.int .i64 r.next) (.slice ab2 an ac2))
   have HRO := hid (RepOwn.put (r := r) ⟨(he5.below hb6).lower (B' := w.heap.size) (by show w.heap.size ≤ A.heap.size; omega), ho6.lower hsz⟩ HZ6.out (put7_off w6 (w.heap.size + 1) (.slice cb2 cn2 cc2) (.slice db2 r.eng.deeds.length dc2) (.slice sb2 r.eng.state.length sc2) (.slice eb2 r.eng.ends.length ec2) (.int .i64 r.eng.base) (.int .i64 r.next) (.slice ab2 an ac2)))
   clear he5 hb5 ho6 hb6 PE PW
   go_wp2
   refine bodyPost_ret (ownR_results _ (w.heap.size + 1) _ rfl HBF.out) rfl ?_
   exact ⟨_, _, _, _, _, _, _, _, _, _, _, _, _, _, _, _, rfl, HRO.out, HBL.out⟩
end Go.Proofs.YtlhaeeenkgkdaaaGreatDoor
