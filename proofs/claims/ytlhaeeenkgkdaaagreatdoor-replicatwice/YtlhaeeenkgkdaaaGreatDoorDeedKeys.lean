/-
  slices.Concat over rows: the rows one behind the other, in new memory.
  What it means that a slice in memory holds cells, of whatever type, and how an append onto a row of the call's own goes.
  The program's search among texts, and what it finds wrong with keys.
-/
import Derived.Test.YtlhaeeenkgkdaaaGreatDoorAround
import Derived.OwnWalk
import Derived.Lib.AppendZerosOnto
import Derived.Laws.AppendOwn
import Derived.Test.YtlhaeeenkgkdaaaGreatDoorTextMath
namespace Go.Proofs.YtlhaeeenkgkdaaaGreatDoor
open Go.RowKit

def rowCells : List Row → List Value
 | [] => []
 | x :: l => .string x.1 :: .int .i64 x.2 :: rowCells l

theorem rowCells_append : ∀ l m, rowCells (l ++ m) = rowCells l ++ rowCells m
 | [], _ => rfl
 | x :: l, m => by simp [rowCells, rowCells_append l m]
theorem rowCells_length : ∀ l, (rowCells l).length = l.length * 2
 | [] => rfl
 | x :: l => by simp [rowCells, rowCells_length l]; omega
theorem rowCells_one : ∀ l, ∀ u ∈ rowCells l, u.oneCell' = true
 | [], _, h => by cases h
 | x :: l, u, h => by
   simp only [rowCells, List.mem_cons] at h
   rcases h with rfl | rfl | h
   · rfl
   · rfl
   · exact rowCells_one l u h
theorem rowCells_at : ∀ (l : List Row) (i : Nat), i < l.length → (rowCells l)[i * 2]? = some (.string (l.getD i default).1) ∧ (rowCells l)[i * 2 + 1]? = some (.int .i64 (l.getD i default).2)
 | [], i, h => absurd h (Nat.not_lt_zero _)
 | x :: l, 0, _ => by simp [rowCells]
 | x :: l, i + 1, h => by
   have := rowCells_at l i (by simpa using h)
   rw [show (i + 1) * 2 = i * 2 + 1 + 1 from by omega]
   simpa [rowCells] using this

theorem cells_of_rowCells {w : World} {b o : Nat} {l : List Row} (h : ∀ j u, (rowCells l)[j]? = some u → w.cell? ((⟨b, o, none⟩ : Addr).add j) = some u) : Cells w b o l := fun i hi => by
 have h1 := h _ _ (rowCells_at l i hi).1
 have h2 := h _ _ (rowCells_at l i hi).2
 rw [Addr.add_lit] at h1 h2
 exact ⟨h1, by rw [Nat.add_assoc]; exact h2⟩
theorem rowCells_of_cells {w : World} {b o : Nat} {l : List Row} (h : Cells w b o l) : ∀ j u, (rowCells l)[j]? = some u → w.cell? ((⟨b, o, none⟩ : Addr).add j) = some u := fun j u hu => by
 have hj : j < l.length * 2 := by rw [← rowCells_length]; exact (List.getElem?_eq_some_iff.1 hu).1
 rw [Addr.add_lit]
 by_cases e : j % 2 = 0
 · have := rowCells_at l (j / 2) (by omega)
   rw [show j / 2 * 2 = j from by omega] at this
   rw [this.1] at hu
   have h3 := (h (j / 2) (by omega)).1
   rw [show j / 2 * 2 = j from by omega] at h3
   rw [h3]; exact hu
 · have := rowCells_at l (j / 2) (by omega)
   rw [show j / 2 * 2 + 1 = j from by omega] at this
   rw [this.2] at hu
   have h3 := (h (j / 2) (by omega)).2
   rw [show o + j / 2 * 2 + 1 = o + j from by omega] at h3
   rw [h3]; exact hu

theorem pairInfo : (Tryz.prog.info? 117).map (fun i => (i.zero, i.size, i.bytes)) = some (some (.agg #[.string ByteArray.empty, .int .i64 0]), 2, 24) := by kernel_rfl

theorem holds_of_owned {w : World} {B n : Nat} {v : Value} {l : List Row} (h : w.ownsRow B 117 2 v n (rowCells l)) : ∃ base c, v = .slice base n c ∧ Holds w base n c l := by
 have hl : n = l.length := by have := h.1; rw [rowCells_length] at this; omega
 rcases h.2 with ⟨rfl, rfl⟩ | ⟨g, cap, cur, rfl, _, _, hnc, hcm, _, _⟩
 · exact ⟨none, 0, rfl, Holds.empty w hl rfl ⟨Nat.le_refl _, Nat.zero_le _, fun _ => rfl⟩⟩
 · exact ⟨some ⟨g, 0, none⟩, cap, rfl, Holds.cells hl (cells_of_rowCells (h.cells rfl)) hnc hcm⟩

def Kind (w : World) (t : TypeId) (base : Option Addr) : Prop := ∀ a, base = some a → ∃ cur z, w.heap[a.block]? = some (.cells cur t z)
theorem Kind.none (w : World) (t : TypeId) : Kind w t none := fun _ h => by cases h
theorem Kind.below {w w' : World} {t : TypeId} {base : Option Addr} (h : Kind w t base) (hb : Below w.heap.size w w') : Kind w' t base := fun a e => by
 obtain ⟨cur, z, hc⟩ := h a e
 exact ⟨cur, z, by rw [hb.block a.block (Array.getElem?_eq_some_iff.1 hc).1]; exact hc⟩
theorem Kind.set {w : World} {t : TypeId} {base : Option Addr} (h : Kind w t base) (p : Addr) (u : Value) : Kind (w.setCell p u) t base := fun a e => by
 obtain ⟨cur, z, hc⟩ := h a e
 by_cases hp : a.block = p.block
 · simp only [World.setCell, Array.getElem?_modify]
   rw [if_pos hp.symm, hc]
   simp only [Option.map_some]
   split
   · exact ⟨_, _, rfl⟩
   · exact ⟨_, _, rfl⟩
 · exact ⟨cur, z, by rw [Below.heap_setCell _ _ _ _ hp]; exact hc⟩
theorem Kind.owned {w : World} {base : Option Addr} {B t s n c : Nat} {xs : List Value} (h : w.ownsRow B t s (.slice base n c) n xs) : Kind w t base := fun a e => by
 rcases h.2 with ⟨h', _⟩ | ⟨g, cap, cur, h', _, hg, _⟩
 · simp at h'; rw [h'.1] at e; cases e
 · simp at h'; rw [h'.1] at e; cases e; exact ⟨cur, _, hg⟩

theorem wpList_app (w : World) {ops : Array Oper} {rest : List Oper} {o : Oper} {a : Act} {Q : Exit → Act → World → Prop} (hgd : o.guard = none) (s x : Operand)
   (ho : o.op = .call { callee := .builtin .append, args := #[s, x], argTypes := #[49, 49] })
   (B : Nat) (v : Value) (n : Nat) (l : List Row) (hs : a.eval s = v) (hown : w.ownsRow B 117 2 v n (rowCells l)) (base : Option Addr) (m c : Nat) (l2 : List Row) (hx : a.eval x = .slice base m c) (hh : Holds w base m c l2)
   (hbytes : (n + m) * 24 ≤ 140737488355328) (hB : B ≤ w.heap.size)
   (h : ∀ v' w', w'.ownsRow B 117 2 v' (n + m) (rowCells (l ++ l2)) → w.grownBy w' v.ownBlock → wpList Tryz.prog ops Q rest (a.put o.dst v') w') : wpList Tryz.prog ops Q (o :: rest) a w := by
 obtain ⟨i0, hi, hz0, hz1, hz2⟩ := info_parts pairInfo
 have hlen : (rowCells l2).length = m * 2 := by rw [rowCells_length, hh.len]
 have h63 : n + m ≤ maxLen := by unfold maxLen; omega
 have key : ∀ ad, base = some ad → (∀ j u, (rowCells l2)[j]? = some u → w.cell? (ad.add j) = some u) → wpList Tryz.prog ops Q (o :: rest) a w := fun ad had hnews =>
   wpList_append_own w hgd s x 49 ho B 117 i0 _ 2 24 Tryz.underlying49 hi hz0 hz1 hz2 rfl (by decide) v n (rowCells l) hs hown ad m c (rowCells l2) (by rw [hx, had]) hlen hnews (rowCells_one l2) h63 hbytes hB
     (fun v' w' h1 h2 _ => h v' w' (by rw [rowCells_append]; exact h1) h2)
 cases base with
 | some ad =>
   rcases hh.seg with he | ⟨b, o', he, hc⟩
   · exact key ad rfl (fun j u hu => by rw [he] at hu; simp [rowCells] at hu)
   · cases he
     exact key _ rfl (rowCells_of_cells hc)
 | none =>
   obtain rfl := hh.hdr.nil rfl
   obtain rfl : m = 0 := by have := hh.hdr.le; omega
   have hl2 : l2 = [] := List.eq_nil_of_length_eq_zero (by have := hh.len; omega)
   refine wpList_plain hgd fun K hK' => ?_
   have hrun := run_append_owned_none (P := Tryz.prog) w B 49 o.type 117 i0 2 Tryz.underlying49 hi v n (rowCells l) hown
   unfold Oper.wp
   simp [execOp, ho, resolve, invoke, builtin, hs, hx, hrun, Result.andThen]
   exact hK' _ _ (h v w (by rw [hl2]; simpa using hown) (World.grownBy.refl _ _))

end Go.Proofs.YtlhaeeenkgkdaaaGreatDoor

namespace Go.Proofs.YtlhaeeenkgkdaaaGreatDoor
open Go.RowKit

def Run (w : World) (b o : Nat) (vs : List Value) : Prop := ∀ j u, vs[j]? = some u → w.cell? ⟨b, o + j, none⟩ = some u

structure Lies (w : World) (sz : Nat) (base : Option Addr) (n c : Nat) (vs : List Value) : Prop where
 len : vs.length = n * sz
 hdr : Hdr base n c
 run : n = 0 ∨ ∃ b o, base = some ⟨b, o, none⟩ ∧ Run w b o vs

theorem Run.lt {w : World} {b o : Nat} {vs : List Value} (h : Run w b o vs) (hl : 0 < vs.length) : b < w.heap.size := by
 have := h 0 vs[0] (by simp [hl])
 simpa using World.block_lt_of_cell? _ _ this
theorem Run.below {w w' : World} {b o B : Nat} {vs : List Value} (h : Run w b o vs) (hb : Below B w w') (hB : b < B) : Run w' b o vs := fun j u hu => by
 rw [hb.cell (p := ⟨b, o + j, none⟩) hB]; exact h j u hu
theorem Lies.below {w w' : World} {sz : Nat} (hsz : 0 < sz) {base : Option Addr} {n c : Nat} {vs : List Value} (h : Lies w sz base n c vs) (hb : Below w.heap.size w w') : Lies w' sz base n c vs := by
 refine ⟨h.len, h.hdr, ?_⟩
 rcases h.run with h0 | ⟨b, o, e, hr⟩
 · exact .inl h0
 · by_cases h0 : n = 0
   · exact .inl h0
   · refine .inr ⟨b, o, e, hr.below hb (hr.lt ?_)⟩
     rw [h.len]
     exact Nat.mul_pos (by omega) hsz
theorem Lies.none (w : World) (sz : Nat) : Lies w sz none 0 0 [] := ⟨by simp, ⟨Nat.le_refl _, Nat.zero_le _, fun _ => rfl⟩, .inl rfl⟩

theorem Lies.owned {w : World} {B e sz n : Nat} {v : Value} {vs : List Value} (h : w.ownsRow B e sz v n vs) : ∃ base c, v = .slice base n c ∧ Lies w sz base n c vs := by
 have hl := h.1
 rcases h.2 with ⟨rfl, rfl⟩ | ⟨g, cap, cur, rfl, _, _, hnc, hcm, _, _⟩
 · exact ⟨_, 0, rfl, ⟨hl, ⟨Nat.le_refl _, Nat.zero_le _, fun _ => rfl⟩, .inl rfl⟩⟩
 · refine ⟨some ⟨g, 0, Option.none⟩, cap, rfl, ⟨hl, ⟨hnc, hcm, fun h => by cases h⟩, .inr ⟨g, 0, rfl, fun j u hu => ?_⟩⟩⟩
   have := h.cells rfl j u hu
   rwa [Addr.add_lit] at this

theorem wpList_onto (w : World) {ops : Array Oper} {rest : List Oper} {o : Oper} {a : Act} {Q : Exit → Act → World → Prop} (hgd : o.guard = Option.none) (s x : Operand) (t e sz bytes : Nat) (z : Value)
   (hu : Tryz.prog.underlying t = some (.slice e)) (hinfo : (Tryz.prog.info? e).map (fun i => (i.zero, i.size, i.bytes)) = some (some z, sz, bytes)) (hzc : z.cells.size = sz) (hsz : 0 < sz) (hby : 0 < bytes)
   (ho : o.op = .call { callee := .builtin .append, args := #[s, x], argTypes := #[t, t] })
   (B : Nat) (v : Value) (n : Nat) (l : List Value) (hs : a.eval s = v) (hown : w.ownsRow B e sz v n l) (base : Option Addr) (m c : Nat) (l2 : List Value) (hx : a.eval x = .slice base m c) (hh : Lies w sz base m c l2) (hone : ∀ u ∈ l2, u.oneCell' = true)
   (hbytes : (n + m) * bytes ≤ 140737488355328) (hB : B ≤ w.heap.size)
   (h : ∀ v' w', w'.ownsRow B e sz v' (n + m) (l ++ l2) → w.grownBy w' v.ownBlock → wpList Tryz.prog ops Q rest (a.put o.dst v') w') : wpList Tryz.prog ops Q (o :: rest) a w := by
 obtain ⟨i0, hi, hz0, hz1, hz2⟩ := info_parts hinfo
 have hlen := hh.len
 have h63 : n + m ≤ maxLen := by
   have := Nat.le_mul_of_pos_right (n + m) hby
   unfold maxLen; omega
 have key : ∀ ad, base = some ad → (∀ j u, l2[j]? = some u → w.cell? (ad.add j) = some u) → wpList Tryz.prog ops Q (o :: rest) a w := fun ad had hnews =>
   wpList_append_own w hgd s x t ho B e i0 _ sz bytes hu hi hz0 hz1 hz2 hzc hsz v n l hs hown ad m c l2 (by rw [hx, had]) hlen hnews hone h63 hbytes hB
     (fun v' w' h1 h2 _ => h v' w' h1 h2)
 cases base with
 | some ad =>
   rcases hh.run with he | ⟨b, o', he, hc⟩
   · subst he
     have : l2 = [] := List.eq_nil_of_length_eq_zero (by omega)
     exact key ad rfl (fun j u hu => by rw [this] at hu; simp at hu)
   · cases he
     exact key _ rfl (fun j u hu => by rw [Addr.add_lit]; exact hc j u hu)
 | none =>
   obtain rfl := hh.hdr.nil rfl
   obtain rfl : m = 0 := by have := hh.hdr.le; omega
   have hl2 : l2 = [] := List.eq_nil_of_length_eq_zero (by omega)
   refine wpList_plain hgd fun K hK' => ?_
   have hrun := run_append_owned_none (P := Tryz.prog) w B t o.type e i0 sz hu hi v n l hown
   unfold Oper.wp
   simp [execOp, ho, resolve, invoke, builtin, hs, hx, hrun, Result.andThen]
   exact hK' _ _ (h v w (by rw [hl2]; simpa using hown) (World.grownBy.refl _ _))

def strs (l : List ByteArray) : List Value := l.map Value.string
theorem strs_length (l : List ByteArray) : (strs l).length = l.length := by simp [strs]
theorem strs_at {l : List ByteArray} {i : Nat} (h : i < l.length) : (strs l)[i]? = some (.string (l.getD i default)) := by simp [strs, List.getD, h]
theorem strs_one (l : List ByteArray) : ∀ u ∈ strs l, u.oneCell' = true := fun u hu => by
 simp [strs] at hu; obtain ⟨x, _, rfl⟩ := hu; rfl
theorem strs_append (l m : List ByteArray) : strs (l ++ m) = strs l ++ strs m := by simp [strs]
abbrev Texts (w : World) (base : Option Addr) (n c : Nat) (l : List ByteArray) : Prop := Lies w 1 base n c (strs l)
theorem Texts.count {w : World} {base : Option Addr} {n c : Nat} {l : List ByteArray} (h : Texts w base n c l) : n = l.length := by have := h.len; rw [strs_length] at this; omega
theorem Texts.take {w : World} {base : Option Addr} {n c : Nat} {l : List ByteArray} (h : Texts w base n c l) {k : Nat} (hk : k ≤ n) : Texts w base k c (l.take k) := by
 have hn := Texts.count h
 refine ⟨by rw [strs_length]; simp; omega, ⟨Nat.le_trans hk h.hdr.le, h.hdr.max, h.hdr.nil⟩, ?_⟩
 rcases h.run with h0 | ⟨b, o, e, hr⟩
 · exact .inl (by omega)
 · refine .inr ⟨b, o, e, fun j u hu => hr j u ?_⟩
   simp [strs, List.getElem?_take] at hu ⊢
   exact hu.2
theorem strInfo : (Tryz.prog.info? 9).map (fun i => (i.zero, i.size, i.bytes)) = some (some (.string ByteArray.empty), 1, 16) := by kernel_rfl
end Go.Proofs.YtlhaeeenkgkdaaaGreatDoor

namespace Go.Proofs.YtlhaeeenkgkdaaaGreatDoor
open Go.RowKit

theorem streq_true {a b : ByteArray} (h : a = b) : (a.toList == b.toList) = true := by subst h; simp
theorem streq_false {a b : ByteArray} (h : a ≠ b) : (a.toList == b.toList) = false := by simpa using fun e => h (toList_inj e)

theorem index_calls (l : List ByteArray) (base : Option Addr) (n c : Nat) (k : ByteArray) (w : World) (ha : Texts w base n c l) :
   Calls Tryz.prog 84 #[.slice base n c, .string k] w fun e w' => (∃ x : Int, e = .returned (.int .i64 x) ∧ decide (x ≥ 0) = has l k) ∧ w = w' := by
 have HN := hid (Texts.count ha)
 have hm := Nat.le_trans ha.hdr.le ha.hdr.max
 unfold maxLen at hm
 by_cases h0 : n = 0
 · subst h0
   have hl : l = [] := List.eq_nil_of_length_eq_zero (by have := HN.out; omega)
   subst hl
   clear ha
   go_enter Tryz.func84, Tryz.ntmps84
   go_wp2
   go_loop [8] (fun i => i = .int .i64 0) (fun _ => 0)
   case atStart => rfl
   case round =>
     obtain rfl := hrel
     go_wp2
     go_ret
     exact ⟨⟨-1, rfl, by simp [has]⟩, rfl⟩
 rcases ha.run with h | ⟨b, o, rfl, h1⟩
 · exact absurd h h0
 have HC := hid h1
 clear h1 h0 ha
 go_enter Tryz.func84, Tryz.ntmps84
 go_wp2
 go_loop [8] (fun i => ∃ j : Nat, j ≤ n ∧ i = .int .i64 j ∧ Hid (has (l.take j) k = false)) (fun i => n - (intOf i).toNat)
 case atStart => exact ⟨0, Nat.zero_le _, rfl, rfl⟩
 case round =>
   obtain ⟨j, hj, rfl, HH⟩ := hrel
   by_cases hlt : j < n
   · have hjl : j < l.length := by rw [← HN.out]; exact hlt
     have c1 := HC.out j _ (strs_at hjl)
     have hi : (j : Int) < (n : Int) := by omega
     have HT := hid (has_snoc (l.take j) (l.getD j default) k)
     rw [← take_snoc_getD hjl, HH.out] at HT
     generalize l.getD j default = x at *
     by_cases hx : k = x
     · have hs := streq_true hx
       have HF : Hid (has l k = true) := by
         show _ = _
         refine has_take_true (i := j + 1) ?_
         rw [HT.out]; simp [hx]
       clear hx
       go_wp2
       go_ret
       exact ⟨⟨j, rfl, by rw [HF.out]; simp⟩, rfl⟩
     · have hs := streq_false hx
       have HF : Hid (has (l.take (j + 1)) k = false) := by
         show _ = _
         rw [HT.out]; simpa using fun e => hx e.symm
       clear hx
       go_wp2
       go_round
       case rel => exact ⟨j + 1, by omega, by go_num, HF⟩
       case measure => simp [intOf]; omega
   · go_wp2
     go_ret
     refine ⟨⟨-1, rfl, ?_⟩, rfl⟩
     have : l.take j = l := List.take_of_length_le (by rw [← HN.out]; omega)
     rw [← this, HH.out]; rfl

theorem contains_calls (l : List ByteArray) (base : Option Addr) (n c : Nat) (k : ByteArray) (w : World) (ha : Texts w base n c l) :
   Calls Tryz.prog 109 #[.slice base n c, .string k] w fun e w' => e = .returned (.bool (has l k)) ∧ w = w' := by
 have HI := hid (index_calls l base n c k w ha)
 clear ha
 go_enter Tryz.func109, Tryz.ntmps109
 go_wp2_with fail
 refine HI.out.mono ?_
 rintro e w' ⟨⟨x, rfl, hx⟩, rfl⟩
 have HX := hid hx
 clear hx
 go_wp2
 go_ret
 exact ⟨ret_bool HX.out, rfl⟩

theorem refIn_calls (l : List ByteArray) (base : Option Addr) (n c : Nat) (k : ByteArray) (w : World) (ha : Texts w base n c l) :
   Calls Tryz.prog 35 #[.slice base n c, .string k] w fun e w' => e = .returned (.bool (has l k)) ∧ w = w' := by
 have HN := hid (Texts.count ha)
 have hm := Nat.le_trans ha.hdr.le ha.hdr.max
 unfold maxLen at hm
 by_cases h0 : n = 0
 · subst h0
   have hl : l = [] := List.eq_nil_of_length_eq_zero (by have := HN.out; omega)
   subst hl
   clear ha
   go_enter Tryz.func35, Tryz.ntmps35
   go_wp2
   go_loop [9] (fun i => i = .int .i64 0) (fun _ => 0)
   case atStart => rfl
   case round =>
     obtain rfl := hrel
     go_wp2
     go_ret
     exact ⟨rfl, rfl⟩
 rcases ha.run with h | ⟨b, o, rfl, h1⟩
 · exact absurd h h0
 have HC := hid h1
 clear h1 h0 ha
 go_enter Tryz.func35, Tryz.ntmps35
 go_wp2
 go_loop [9] (fun i => ∃ j : Nat, j ≤ n ∧ i = .int .i64 j ∧ Hid (has (l.take j) k = false)) (fun i => n - (intOf i).toNat)
 case atStart => exact ⟨0, Nat.zero_le _, rfl, rfl⟩
 case round =>
   obtain ⟨j, hj, rfl, HH⟩ := hrel
   by_cases hlt : j < n
   · have hjl : j < l.length := by rw [← HN.out]; exact hlt
     have c1 := HC.out j _ (strs_at hjl)
     have hi : (j : Int) < (n : Int) := by omega
     have HT := hid (has_snoc (l.take j) (l.getD j default) k)
     rw [← take_snoc_getD hjl, HH.out] at HT
     generalize l.getD j default = x at *
     by_cases hx : x = k
     · have hs := streq_true hx
       have HF : Hid (has l k = true) := by
         show _ = _
         refine has_take_true (i := j + 1) ?_
         rw [HT.out]; simp [hx]
       clear hx
       go_wp2
       go_ret
       exact ⟨ret_bool HF.out.symm, rfl⟩
     · have hs := streq_false hx
       have HF : Hid (has (l.take (j + 1)) k = false) := by
         show _ = _
         rw [HT.out]; simpa using hx
       clear hx
       go_wp2
       go_round
       case rel => exact ⟨j + 1, by omega, by go_num, HF⟩
       case measure => simp [intOf]; omega
   · go_wp2
     go_ret
     refine ⟨ret_bool ?_, rfl⟩
     have : l.take j = l := List.take_of_length_le (by rw [← HN.out]; omega)
     rw [← this, HH.out]

theorem unnamed_calls (l : List ByteArray) (base : Option Addr) (n c : Nat) (k : ByteArray) (w : World) (ha : Texts w base n c l) :
   Calls Tryz.prog 112 #[.slice base n c, .string k] w fun e w' => e = .returned (.int .i64 (noKey l k)) ∧ w = w' := by
 have HI := hid (contains_calls l base n c k w ha)
 clear ha
 unfold noKey
 cases h : has l k with
 | true =>
   rw [h] at HI
   go_enter Tryz.func112, Tryz.ntmps112
   go_wp2_with fail
   refine HI.out.mono ?_
   rintro e w' ⟨rfl, rfl⟩
   go_wp2
   go_ret
   exact ⟨rfl, rfl⟩
 | false =>
   rw [h] at HI
   go_enter Tryz.func112, Tryz.ntmps112
   go_wp2_with fail
   refine HI.out.mono ?_
   rintro e w' ⟨rfl, rfl⟩
   go_wp2
   go_ret
   exact ⟨rfl, rfl⟩

set_option maxHeartbeats 1000000 in
theorem wrongKeys_calls (l : List ByteArray) (base : Option Addr) (n c : Nat) (w : World) (hsm : ∀ x ∈ l, x.size ≤ maxLen) (ha : Texts w base n c l) :
   Calls Tryz.prog 89 #[.slice base n c] w fun e w' => e = .returned (.int .i64 (wKeys l)) ∧ w = w' := by
 have hn := Texts.count ha
 by_cases h5 : 5 < n
 · have HW : Hid (wKeys l = 5) := by show _ = _; rw [wKeys, if_pos (by omega)]
   have hm := Nat.le_trans ha.hdr.le ha.hdr.max
   unfold maxLen at hm
   clear ha hn hsm
   go_enter Tryz.func89, Tryz.ntmps89
   go_wp2
   go_ret
   exact ⟨ret_int HW.out.symm, rfl⟩
 by_cases h0 : n = 0
 · subst h0
   have hl : l = [] := List.eq_nil_of_length_eq_zero (by omega)
   subst hl
   clear ha hn hsm h5
   go_enter Tryz.func89, Tryz.ntmps89
   go_wp2
   go_loop [10] (fun i => i = .int .i64 0) (fun _ => 0)
   case atStart => rfl
   case round =>
     obtain rfl := hrel
     go_wp2
     go_ret
     exact ⟨rfl, rfl⟩
 have hcap := ha.hdr.le
 have hmx := ha.hdr.max
 unfold maxLen at hmx
 have HW : Hid (wKeys l = if badTo l n = true then 7 else 0) := by show _ = _; rw [wKeys, if_neg (by omega), ← hn]
 have HA := hid ha
 rcases ha.run with h | ⟨b, o, rfl, h1⟩
 · exact absurd h h0
 have HC := hid h1
 have HN := hid hn
 have HS := hid hsm
 clear h1 h0 ha hn hsm
 go_enter Tryz.func89, Tryz.ntmps89
 go_wp2
 go_loop [10] (fun i => ∃ j : Nat, j ≤ n ∧ i = .int .i64 j ∧ Hid (badTo l j = false)) (fun i => n - (intOf i).toNat)
 case atStart => exact ⟨0, Nat.zero_le _, rfl, rfl⟩
 case round =>
   obtain ⟨j, hj, rfl, HH⟩ := hrel
   by_cases hlt : j < n
   · have hjl : j < l.length := by rw [← HN.out]; exact hlt
     have c1 := HC.out j _ (strs_at hjl)
     have hi : (j : Int) < (n : Int) := by omega
     have hz : (l.getD j default).size ≤ maxLen := HS.out _ (by simp [List.getD, hjl])
     have HB : Hid (badAt l j = (!keyB (l.getD j default) || has (l.take j) (l.getD j default))) := rfl
     have HT := hid (contains_calls (l.take j) (some ⟨b, o, none⟩) j c (l.getD j default) w (Texts.take HA.out hj))
     have HX : Hid (badAt l j = true → wKeys l = 7) := fun h => by rw [HW.out, HN.out, badTo_all hjl h]; rfl
     have HY : Hid (badAt l j = false → badTo l (j + 1) = false) := fun h => by simp [badTo, HH.out, h]
     generalize l.getD j default = x at *
     generalize badAt l j = bd at *
     generalize has (l.take j) x = hs at *
     cases hk : keyB x with
     | false =>
       rw [hk] at HB
       go_wp2_with fail
       refine (key_calls x _ hz).mono ?_
       rintro e w' ⟨rfl, rfl⟩
       rw [hk]
       go_wp2
       go_ret
       exact ⟨ret_int (HX.out (by rw [HB.out]; rfl)).symm, rfl⟩
     | true =>
       rw [hk] at HB
       cases hs with
       | true =>
         go_wp2_with fail
         refine (key_calls x _ hz).mono ?_
         rintro e w' ⟨rfl, rfl⟩
         rw [hk]
         go_wp2_with fail
         refine HT.out.mono ?_
         rintro e w' ⟨rfl, rfl⟩
         go_wp2
         go_ret
         exact ⟨ret_int (HX.out (by rw [HB.out]; rfl)).symm, rfl⟩
       | false =>
         go_wp2_with fail
         refine (key_calls x _ hz).mono ?_
         rintro e w' ⟨rfl, rfl⟩
         rw [hk]
         go_wp2_with fail
         refine HT.out.mono ?_
         rintro e w' ⟨rfl, rfl⟩
         go_wp2
         go_round
         case rel => exact ⟨j + 1, by omega, by go_num, HY.out (by rw [HB.out]; rfl)⟩
         case measure => simp [intOf]; omega
   · obtain rfl : j = n := by omega
     go_wp2
     go_ret
     exact ⟨ret_int (by rw [HW.out, HH.out]; rfl), rfl⟩
end Go.Proofs.YtlhaeeenkgkdaaaGreatDoor
