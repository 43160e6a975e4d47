/-
  slices.Concat over rows: the rows one behind the other, in new memory.
-/
import Derived.Test.YtfchjhdgnibnnabOpen
import Derived.OwnWalk
import Derived.Lib.AppendZerosOnto
import Derived.Laws.AppendOwn
namespace Go.Proofs.Ytfchjhdgnibnnab
open Go.RowKit

/-- The cells of rows. -/
def rowCells : List Row → List Value
  | [] => []
  | x :: l => .string x.1 :: .int .i64 x.2 :: rowCells l

theorem rowCells_append : ∀ l m, rowCells (l ++ m) = rowCells l ++ rowCells m
  | [], _ => rfl
  | x :: l, m => by simp [rowCells, rowCells_append l m]
theorem rowCells_length : ∀ l, (rowCells l).length = l.length * 2
  | [] => rfl
  | x :: l => by simp [rowCells, rowCells_length l]; omega
theorem rowCells_one : ∀ l, ∀ u ∈ rowCells l, u.oneCell' = true
  | [], _, h => by cases h
  | x :: l, u, h => by
    simp only [rowCells, List.mem_cons] at h
    rcases h with rfl | rfl | h
    · rfl
    · rfl
    · exact rowCells_one l u h
theorem rowCells_at : ∀ (l : List Row) (i : Nat), i < l.length → (rowCells l)[i * 2]? = some (.string (l.getD i default).1) ∧ (rowCells l)[i * 2 + 1]? = some (.int .i64 (l.getD i default).2)
  | [], i, h => absurd h (Nat.not_lt_zero _)
  | x :: l, 0, _ => by simp [rowCells]
  | x :: l, i + 1, h => by
    have := rowCells_at l i (by simpa using h)
    rw [show (i + 1) * 2 = i * 2 + 1 + 1 from by omega]
    simpa [rowCells] using this

theorem cells_of_rowCells {w : World} {b o : Nat} {l : List Row} (h : ∀ j u, (rowCells l)[j]? = some u → w.cell? ((⟨b, o, none⟩ : Addr).add j) = some u) : Cells w b o l := fun i hi => by
  have h1 := h _ _ (rowCells_at l i hi).1
  have h2 := h _ _ (rowCells_at l i hi).2
  rw [Addr.add_lit] at h1 h2
  exact ⟨h1, by rw [Nat.add_assoc]; exact h2⟩
theorem rowCells_of_cells {w : World} {b o : Nat} {l : List Row} (h : Cells w b o l) : ∀ j u, (rowCells l)[j]? = some u → w.cell? ((⟨b, o, none⟩ : Addr).add j) = some u := fun j u hu => by
  have hj : j < l.length * 2 := by rw [← rowCells_length]; exact (List.getElem?_eq_some_iff.1 hu).1
  rw [Addr.add_lit]
  by_cases e : j % 2 = 0
  · have := rowCells_at l (j / 2) (by omega)
    rw [show j / 2 * 2 = j from by omega] at this
    rw [this.1] at hu
    have h3 := (h (j / 2) (by omega)).1
    rw [show j / 2 * 2 = j from by omega] at h3
    rw [h3]; exact hu
  · have := rowCells_at l (j / 2) (by omega)
    rw [show j / 2 * 2 + 1 = j from by omega] at this
    rw [this.2] at hu
    have h3 := (h (j / 2) (by omega)).2
    rw [show o + j / 2 * 2 + 1 = o + j from by omega] at h3
    rw [h3]; exact hu

theorem pairInfo : (Try.prog.info? 64).map (fun i => (i.zero, i.size, i.bytes)) = some (some (.agg #[.string ByteArray.empty, .int .i64 0]), 2, 24) := by kernel_rfl

/-- What a row that the call owns holds. -/
theorem holds_of_owned {w : World} {B n : Nat} {v : Value} {l : List Row} (h : w.ownsRow B 64 2 v n (rowCells l)) : ∃ base c, v = .slice base n c ∧ Holds w base n c l := by
  have hl : n = l.length := by have := h.1; rw [rowCells_length] at this; omega
  rcases h.2 with ⟨rfl, rfl⟩ | ⟨g, cap, cur, rfl, _, _, hnc, hcm, _, _⟩
  · exact ⟨none, 0, rfl, Holds.empty w hl rfl ⟨Nat.le_refl _, Nat.zero_le _, fun _ => rfl⟩⟩
  · exact ⟨some ⟨g, 0, none⟩, cap, rfl, Holds.cells hl (cells_of_rowCells (h.cells rfl)) hnc hcm⟩

/-- The memory of a slice is of elements of the type t. -/
def Kind (w : World) (t : TypeId) (base : Option Addr) : Prop := ∀ a, base = some a → ∃ cur z, w.heap[a.block]? = some (.cells cur t z)
theorem Kind.none (w : World) (t : TypeId) : Kind w t none := fun _ h => by cases h
theorem Kind.below {w w' : World} {t : TypeId} {base : Option Addr} (h : Kind w t base) (hb : Below w.heap.size w w') : Kind w' t base := fun a e => by
  obtain ⟨cur, z, hc⟩ := h a e
  exact ⟨cur, z, by rw [hb.block a.block (Array.getElem?_eq_some_iff.1 hc).1]; exact hc⟩
theorem Kind.set {w : World} {t : TypeId} {base : Option Addr} (h : Kind w t base) (p : Addr) (u : Value) : Kind (w.setCell p u) t base := fun a e => by
  obtain ⟨cur, z, hc⟩ := h a e
  by_cases hp : a.block = p.block
  · simp only [World.setCell, Array.getElem?_modify]
    rw [if_pos hp.symm, hc]
    simp only [Option.map_some]
    split
    · exact ⟨_, _, rfl⟩
    · exact ⟨_, _, rfl⟩
  · exact ⟨cur, z, by rw [Below.heap_setCell _ _ _ _ hp]; exact hc⟩
theorem Kind.owned {w : World} {B t s n : Nat} {base : Option Addr} {c : Nat} {xs : List Value} (h : w.ownsRow B t s (.slice base n c) n xs) : Kind w t base := fun a e => by
  rcases h.2 with ⟨h', _⟩ | ⟨g, cap, cur, h', _, hg, _⟩
  · simp at h'; rw [h'.1] at e; cases e
  · simp at h'; rw [h'.1] at e; cases e; exact ⟨cur, _, hg⟩

/-- An append of rows that lie anywhere onto a row that the call owns. -/
theorem wpList_app (w : World) {ops : Array Oper} {rest : List Oper} {o : Oper} {a : Act} {Q : Exit → Act → World → Prop} (hgd : o.guard = none) (s x : Operand)
    (ho : o.op = .call { callee := .builtin .append, args := #[s, x], argTypes := #[23, 23] })
    (B : Nat) (v : Value) (n : Nat) (l : List Row) (hs : a.eval s = v) (hown : w.ownsRow B 64 2 v n (rowCells l)) (base : Option Addr) (m c : Nat) (l2 : List Row) (hx : a.eval x = .slice base m c) (hh : Holds w base m c l2)
    (hbytes : (n + m) * 24 ≤ 140737488355328) (hB : B ≤ w.heap.size)
    (h : ∀ v' w', w'.ownsRow B 64 2 v' (n + m) (rowCells (l ++ l2)) → w.grownBy w' v.ownBlock → wpList Try.prog ops Q rest (a.put o.dst v') w') : wpList Try.prog ops Q (o :: rest) a w := by
  obtain ⟨i0, hi, hz0, hz1, hz2⟩ := info_parts pairInfo
  have hlen : (rowCells l2).length = m * 2 := by rw [rowCells_length, hh.len]
  have h63 : n + m ≤ maxLen := by unfold maxLen; omega
  have key : ∀ ad, base = some ad → (∀ j u, (rowCells l2)[j]? = some u → w.cell? (ad.add j) = some u) → wpList Try.prog ops Q (o :: rest) a w := fun ad had hnews =>
    wpList_append_own w hgd s x 23 ho B 64 i0 _ 2 24 Try.underlying23 hi hz0 hz1 hz2 rfl (by decide) v n (rowCells l) hs hown ad m c (rowCells l2) (by rw [hx, had]) hlen hnews (rowCells_one l2) h63 hbytes hB
      (fun v' w' h1 h2 _ => h v' w' (by rw [rowCells_append]; exact h1) h2)
  cases base with
  | some ad =>
    rcases hh.seg with he | ⟨b, o', he, hc⟩
    · exact key ad rfl (fun j u hu => by rw [he] at hu; simp [rowCells] at hu)
    · cases he
      exact key _ rfl (rowCells_of_cells hc)
  | none =>
    obtain rfl := hh.hdr.nil rfl
    obtain rfl : m = 0 := by have := hh.hdr.le; omega
    have hl2 : l2 = [] := List.eq_nil_of_length_eq_zero (by have := hh.len; omega)
    refine wpList_plain hgd fun K hK' => ?_
    have hrun := run_append_owned_none (P := Try.prog) w B 23 o.type 64 i0 2 Try.underlying23 hi v n (rowCells l) hown
    unfold Oper.wp
    simp [execOp, ho, resolve, invoke, builtin, hs, hx, hrun, Result.andThen]
    exact hK' _ _ (h v w (by rw [hl2]; simpa using hown) (World.grownBy.refl _ _))

set_option maxHeartbeats 1000000 in
set_option maxRecDepth 100000 in
theorem grow_calls (n : Nat) (w : World) (hn : n * 24 ≤ 140737488355328) :
    Calls Try.prog 75 #[.slice none 0 0, .int .i64 n] w fun e w' => ∃ v, e = .returned v ∧ w'.ownsRow w.heap.size 64 2 v 0 [] ∧ Below w.heap.size w w' := by
  by_cases h0 : n = 0
  · subst h0
    go_enter Try.func75, Try.ntmps75
    go_wp2
    go_ret
    exact ⟨_, rfl, World.ownsRow_nil _ _ _ _, Below.refl _ _⟩
  obtain ⟨i0, hi, hz0, hz1, hz2⟩ := info_parts pairInfo
  have hr := fun ty => Lib.run_append_grow_zeros w 23 3 ty 64 i0 _ .i64 .i64 Try.underlying23 Try.underlying3 hi hz0 none 0 0 [] (run_firstCells_none w.drew i0.size 0 0 0) n (by omega) (by omega) (by omega) (by omega) (by rw [hz2]; omega)
    (by rw [hz2]; exact growslice_fits (by omega) (by simpa using hn))
  simp only [Nat.zero_add] at hr
  have hge := grownCap_ge w n 0 64
  have hmx := grownCap_le_maxLen w n 0 64 (by unfold maxLen; omega)
  generalize grownCap w n 0 64 = G at *
  have HM := hid hmx
  unfold maxLen at hmx
  have hpos : (0 : Int) < (n : Int) := by omega
  have HR := hid hr
  clear hr
  go_enter Try.func75, Try.ntmps75
  go_wp2_with (at_builtin; refine Lib.wpList_append_run _ rfl _ _ _ _ rfl _ _ rfl rfl _ _ (HR.out _) ?_)
  all_goals
    go_ret
    refine ⟨_, rfl, World.ownsRow_made w.drew _ G (Nat.le_refl _) HM.out ?_, (Below.refl _ w).drew.alloc (Nat.le_refl _) _⟩
    simp [size_zeroCells]
    omega

/-- The first k lists, one behind the other. -/
def cat (ls : Nat → List Row) : Nat → List Row
  | 0 => []
  | k + 1 => cat ls k ++ ls k
theorem cat_le (ls : Nat → List Row) {k m : Nat} (h : k ≤ m) : (cat ls k).length ≤ (cat ls m).length := by
  induction m with
  | zero => obtain rfl : k = 0 := by omega
            exact Nat.le_refl _
  | succ m ih =>
    by_cases e : k = m + 1
    · rw [e]; exact Nat.le_refl _
    · have := ih (by omega)
      simp only [cat, List.length_append]; omega
theorem cat_succ_len (ls : Nat → List Row) (k : Nat) : (cat ls (k + 1)).length = (cat ls k).length + (ls k).length := by simp [cat]

set_option maxHeartbeats 1000000 in
theorem concat_calls (cnt ab ao cp : Nat) (bs : Nat → Option Addr) (ns cs : Nat → Nat) (ls : Nat → List Row) (w : World) (hcnt : cnt ≤ maxLen)
    (hcell : ∀ j, j < cnt → w.cell? ⟨ab, ao + j, none⟩ = some (.slice (bs j) (ns j) (cs j))) (hh : ∀ j, j < cnt → Holds w (bs j) (ns j) (cs j) (ls j)) (hb : (cat ls cnt).length * 24 ≤ 140737488355328) :
    Calls Try.prog 67 #[.slice (some ⟨ab, ao, none⟩) cnt cp] w fun e w' =>
      ∃ base n c, e = .returned (.slice base n c) ∧ Holds w' base n c (cat ls cnt) ∧ Below w.heap.size w w' := by
  unfold maxLen at hcnt
  have HH := hid hh
  have HC := hid hcell
  clear hh hcell
  go_enter Try.func67, Try.ntmps67
  go_wp2
  go_loop [3, 11] (fun sz i => ∃ k : Nat, k ≤ cnt ∧ i = .int .i64 k ∧ sz = .int .i64 (cat ls k).length) (fun _ i => cnt - (intOf i).toNat)
  case atStart => exact ⟨0, Nat.zero_le _, rfl, rfl⟩
  case round =>
    obtain ⟨k, hk, rfl, rfl⟩ := hrel
    by_cases hlt : k < cnt
    · have hc := HC.out k hlt
      have hle := cat_le ls (show k + 1 ≤ cnt by omega)
      have hsl := cat_succ_len ls k
      rw [← (HH.out k hlt).len] at hsl
      have HS := hid hsl
      rw [hsl] at hle
      clear hsl
      generalize (cat ls k).length = t at *
      generalize ns k = m at *
      have hi : (k : Int) < (cnt : Int) := by omega
      go_wp2
      go_round
      case rel => exact ⟨k + 1, by omega, by go_num, by rw [HS.out]; go_num⟩
      case measure => simp [intOf]; omega
    · obtain rfl : k = cnt := by omega
      have HG := hid (fun W => grow_calls (cat ls k).length W hb)
      generalize hL : (cat ls k).length = L at *
      have HL := hid hL
      clear hL
      go_wp2_with fail
      refine (HG.out _).mono ?_
      rintro e w1 ⟨v0, rfl, hown0, hbel0⟩
      go_wp2
      go_loopw [6, 27] (fun v i wr => ∃ j : Nat, j ≤ k ∧ i = .int .i64 j ∧ wr.ownsRow w.heap.size 64 2 v (cat ls j).length (rowCells (cat ls j)) ∧ Below w.heap.size w wr) (fun _ i _ => k - (intOf i).toNat)
      case atStart => exact ⟨0, Nat.zero_le _, rfl, hown0, hbel0⟩
      case round =>
        obtain ⟨j, hj, rfl, hown, hbel⟩ := hrel
        have hsz := hbel.size
        by_cases hjt : j < k
        · have hc := HC.out j hjt
          have hab : ab < w.heap.size := by simpa using World.block_lt_of_cell? _ _ hc
          have hcr : wr.cell? ⟨ab, ao + j, none⟩ = some (.slice (bs j) (ns j) (cs j)) := by rw [hbel.cell (p := ⟨ab, ao + j, none⟩) hab]; exact hc
          clear hc
          have HJ := hid ((HH.out j hjt).below hbel)
          have HO := hid hown
          have HW := hid hown.lt
          clear hown
          have hle := cat_le ls (show j + 1 ≤ k by omega)
          have hsl := cat_succ_len ls j
          rw [← (HH.out j hjt).len] at hsl
          rw [HL.out, hsl] at hle
          have HS := hid hsl
          clear hsl
          generalize ns j = m at *
          generalize bs j = bj at *
          generalize cs j = cj at *
          have hi : (j : Int) < (k : Int) := by omega
          go_wp2_with (at_builtin; refine wpList_app _ rfl _ _ rfl w.heap.size _ _ (cat ls j) rfl HO.out _ _ _ (ls j) rfl HJ.out (by omega) hsz ?_; intro v1 w2 hown1 hg1)
          go_roundw
          case rel => exact ⟨j + 1, by omega, by go_num, by rw [HS.out]; exact hown1, hbel.grown hg1 hsz (fun x hx => (HW.out x hx).1)⟩
          case measure => simp [intOf]; omega
        · obtain rfl : j = k := by omega
          obtain ⟨base, c, rfl, hho⟩ := holds_of_owned hown
          go_wp2
          go_ret
          exact ⟨_, _, _, rfl, hho, hbel⟩
end Go.Proofs.Ytfchjhdgnibnnab
