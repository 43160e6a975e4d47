/-
  A map in memory whose keys are texts: what it has at each key, whatever its elements are.
  What it means that a function of the program's own is entered when it is called by a value.
  How the program asks what a key has: its own doings first, then what it is shown.
  What a deed made, told in the order of the keys that it writes.
-/
import Derived.Test.YtlhaeeenkgkdaaaGreatDoorDeedKeys
import Derived.Maps.OwnSet
import Derived.Test.YtlhaeeenkgkdaaaGreatDoorChecked
import Derived.WalkKit
import Derived.Test.YtlhaeeenkgkdaaaGreatDoorOpen
import Derived.Defers
import Derived.Recover
namespace Go.Proofs.YtlhaeeenkgkdaaaGreatDoor
open Go.RowKit

def asIs : Value → Option (DataW Value × List MemPlace) := fun v => some (.held v, [])
def keyLit (k : ByteArray) : Lit := .string k.data.toList
theorem keyLit_inj {a b : ByteArray} (h : keyLit a = keyLit b) : a = b := by
 cases a; cases b; simpa [keyLit] using h
theorem keyLit_is (k : ByteArray) : WideAt.IsKeyLit (keyLit k) := by simp [keyLit, WideAt.IsKeyLit]

def MapIs (w : World) (b n : Nat) (f : ByteArray → Option Value) : Prop :=
 ∃ D : DataW Value, w.ownsMap Tryz.prog 9 asIs b n D ∧ (∀ k, f k = none → Maps.has D (keyLit k) = false) ∧ (∀ k v, f k = some v → Maps.has D (keyLit k) = true ∧ ∀ z, D.atKey (keyLit k) z = .held v)

theorem MapIs.made (w : World) : MapIs (w.alloc (.map #[] 0)) w.heap.size 0 (fun _ => none) :=
 ⟨_, World.ownsMap_made w _ _ _, fun _ _ => rfl, fun _ _ h => by cases h⟩
theorem MapIs.lt {w : World} {b n : Nat} {f : ByteArray → Option Value} (h : MapIs w b n f) : b < w.heap.size := by
 obtain ⟨D, h, _⟩ := h; exact h.lt
theorem MapIs.block {w w' : World} {b n : Nat} {f : ByteArray → Option Value} (h : MapIs w b n f) (hb : w'.heap[b]? = w.heap[b]?) : MapIs w' b n f := by
 obtain ⟨D, ⟨es, clock, h1, h2⟩, r⟩ := h
 exact ⟨D, ⟨es, clock, hb.trans h1, h2⟩, r⟩
theorem MapIs.below {w w' : World} {b n B : Nat} {f : ByteArray → Option Value} (h : MapIs w b n f) (hb : Below B w w') (hB : b < B) : MapIs w' b n f := h.block (hb.block b hB)
theorem MapIs.alloc {w : World} {b n : Nat} {f : ByteArray → Option Value} (h : MapIs w b n f) (o : Obj) : MapIs (w.alloc o) b n f := h.block (Below.heap_alloc _ _ _ h.lt)
theorem MapIs.setCell {w : World} {b n : Nat} {f : ByteArray → Option Value} (h : MapIs w b n f) {a : Addr} (ha : b ≠ a.block) (u : Value) : MapIs (w.setCell a u) b n f := h.block (Below.heap_setCell _ _ _ _ ha)
theorem MapIs.ext {w : World} {b n : Nat} {f g : ByteArray → Option Value} (h : MapIs w b n f) (e : ∀ k, f k = g k) : MapIs w b n g := by
 have : f = g := funext e
 rwa [← this]

theorem key_law : Maps.Keyed Tryz.prog 9 := Maps.string_keyed Tryz.underlying9

theorem MapIs.look {w : World} {b n : Nat} {f : ByteArray → Option Value} (h : MapIs w b n f) {t e : TypeId} (ht : Tryz.prog.underlying t = some (.map 9 e)) {z : Value} (hz : (zeroValue e).run Tryz.prog w = .ok z w) (k : ByteArray) (hk : k.size ≤ maxLen) :
   (Instr.lookup t (.map (some b)) (.string k) true).run Tryz.prog w = .ok (.tuple #[(f k).getD z, .bool (f k).isSome]) w := by
 obtain ⟨D, h, h0, h1⟩ := h
 obtain ⟨v, ps, hr, hv⟩ := h.look_ok key_law ht hz (zd := .held z) (zp := []) rfl (WideMaps.keyOf_string_mk Tryz.underlying9 hk)
 rw [hr]
 cases hf : f k with
 | none =>
   have hn := h0 k hf
   have := Maps.atKey_of_not_has hn (.held z)
   simp only [asIs, Option.some.injEq, Prod.mk.injEq] at hv
   have e1 : DataW.held v = .held z := by rw [hv.1]; exact this
   cases e1
   have : Maps.has D (.string k.data.toList) = false := hn
   rw [this]; rfl
 | some u =>
   obtain ⟨hn, ha⟩ := h1 k u hf
   simp only [asIs, Option.some.injEq, Prod.mk.injEq] at hv
   have e1 : DataW.held v = .held u := by rw [hv.1]; exact ha _
   cases e1
   have : Maps.has D (.string k.data.toList) = true := hn
   rw [this]; rfl

theorem MapIs.put {w : World} {b n : Nat} {f : ByteArray → Option Value} (h : MapIs w b n f) {t e : TypeId} (ht : Tryz.prog.underlying t = some (.map 9 e)) (hn : n < maxLen) (k : ByteArray) (hk : k.size ≤ maxLen) (v : Value) :
   ∃ w', (Instr.mapUpdate t (.map (some b)) (.string k) v).run Tryz.prog w = .ok () w' ∧ MapIs w' b (n + 1) (fun j => if j = k then some v else f j) ∧ w.grownBy w' (some b) := by
 obtain ⟨D, h, h0, h1⟩ := h
 obtain ⟨w', hr, ho, hg⟩ := h.update key_law ht hn (WideMaps.keyOf_string_mk Tryz.underlying9 hk) (val := v) (d := .held v) (ps := []) rfl
 rw [show Lit.string k.data.toList = keyLit k from rfl] at ho
 refine ⟨w', hr, ⟨_, ho, fun j hj => ?_, fun j u hj => ?_⟩, hg⟩
 · by_cases e : j = k
   · simp [e] at hj
   · simp only [if_neg e] at hj
     rw [Maps.has_put_other (fun x => e (keyLit_inj x))]
     exact h0 j hj
 · by_cases e : j = k
   · subst e
     simp at hj
     subst hj
     exact ⟨Maps.has_put_same h.isMap (keyLit_is _) _, fun z => Maps.atKey_put_same h.isMap (keyLit_is _) _ z⟩
   · simp only [if_neg e] at hj
     obtain ⟨g1, g2⟩ := h1 j u hj
     exact ⟨by rw [Maps.has_put_other (fun x => e (keyLit_inj x))]; exact g1, fun z => by rw [Maps.atKey_put_other (fun x => e (keyLit_inj x))]; exact g2 z⟩

theorem wpList_put (w : World) {ops : Array Oper} {rest : List Oper} {o : Oper} {a : Act} {Q : Exit → Act → World → Prop}
   (hg : o.guard = none) (m x v : Operand) (t : TypeId) (hop : o.op = Op.mapUpdate t m x v) (e : TypeId) (ht : Tryz.prog.underlying t = some (.map 9 e)) (b n : Nat) (f : ByteArray → Option Value)
   (hm : a.eval m = .map (some b)) (h : MapIs w b n f) (hn : n < maxLen) (k : ByteArray) (hk : k.size ≤ maxLen) (val : Value) (hx : a.eval x = .string k) (hv : a.eval v = val)
   (hK : ∀ w', MapIs w' b (n + 1) (fun j => if j = k then some val else f j) → w.grownBy w' (some b) → wpList Tryz.prog ops Q rest (a.put o.dst undef) w') :
   wpList Tryz.prog ops Q (o :: rest) a w := by
 refine wpList_plain hg fun K' hK' => ?_
 obtain ⟨w', hrun, r1, r2⟩ := h.put ht hn k hk val
 unfold Oper.wp
 simp [execOp, hop, hm, hx, hv, hrun, Result.andThen]
 exact hK' _ _ (hK w' r1 r2)
end Go.Proofs.YtlhaeeenkgkdaaaGreatDoor

namespace Go.Proofs.YtlhaeeenkgkdaaaGreatDoor
open Go.RowKit

def Entered (F : Nat) : Prop := ∀ (args : Array Value) (w : World), (callFunc F args).run Tryz.prog w = .ok (.enter F args) w
end Go.Proofs.YtlhaeeenkgkdaaaGreatDoor

namespace Go.Proofs.YtlhaeeenkgkdaaaGreatDoor
open Go.RowKit

theorem ask_idle (p : Addr) (w : World) :
   CallsD Tryz.prog 124 #[.pointer (some p)] .returning w fun e u' w' => e = .returned (.tuple #[]) ∧ u' = .returning ∧ w' = w := by
 refine callsD_of_wpS Tryz.func124 rfl fun c₀ cs hu => ?_
 apply wpS_seq
 apply wpS_region
 simp [wpOpsS, go_sem, recoverD, hu, Tryz.ntmps124, Exit.thenS]
 refine wpS_cond (t := false) (by simp [Act.eval, Array.replicate]) ?_
 simp only [Bool.false_eq_true, if_false]
 refine wpS_of_wp (wp_skip ?_)
 cases c₀
 simp_all [bodyPostS, results, Tryz.results124]

def Tells (w : World) (F : Nat) (caps : Array Value) (k : ByteArray) (x : Int) : Prop :=
 ∀ w0, Below w.heap.size w w0 → Calls Tryz.prog F (#[.string k] ++ caps) w0 fun e w' => (∃ (t : Int) (ok : Bool), e = .returned (.tuple #[.int .i64 t, .bool ok]) ∧ (if ok = true then t else 0) = x) ∧ Below w0.heap.size w0 w'
theorem Tells.below {w w1 : World} {F : Nat} {caps : Array Value} {k : ByteArray} {x : Int} (h : Tells w F caps k x) (hb : Below w.heap.size w w1) : Tells w1 F caps k x := fun w0 h0 => h w0 (below_deep hb h0)

theorem ask_calls (F : Nat) (caps : Array Value) (k : ByteArray) (x : Int) (w : World) (hcf : Entered F) (hv : Tells w F caps k x) :
   Calls Tryz.prog 102 #[.func (.func F) #[] caps, .string k] w fun e w' => e = .returned (.int .i64 x) ∧ Below w.heap.size w w' := by
 have hmf : ∀ (fn : Fn) (first cap : Array Value) (w : World), (Instr.makeFunc fn first cap).run Tryz.prog w = .ok (.func fn first cap) w := fun _ _ _ _ => rfl
 have HV := hid hv
 unfold Entered at hcf
 clear hv
 go_enter_defers Tryz.func102, Tryz.ntmps102
 go_wp2_with fail
 refine (HV.out _ ((Below.refl _ _).alloc (Nat.le_refl _) _)).mono ?_
 rintro e w1 ⟨⟨t, ok, rfl, ht⟩, hb⟩
 have HT := hid ht
 have HB := hid (below_deep ((Below.refl _ w).alloc (Nat.le_refl _) _) hb)
 have hc := kept_cell hb (box_cell w _ 3 0 (.int .i64 0) rfl)
 have hz : w1.frozen? ⟨w.heap.size, 0, none⟩ = false := by rw [hb.frozen (p := ⟨w.heap.size, 0, none⟩) (by simp)]; simp [go_sem]
 have hlt : w.heap.size < w1.heap.size := by have := hb.size; simp at this; omega
 clear ht hb
 cases ok with
 | true =>
   go_wp2
   refine leaves_cons (f := 124) (args := #[.pointer (some ⟨w.heap.size, 0, none⟩)]) (by simp) (by simp [go_sem]) ?_
   refine (ask_idle ⟨w.heap.size, 0, none⟩ _).mono ?_
   rintro e u' w'' ⟨rfl, rfl, rfl⟩
   have hcc : (w1.setCell ⟨w.heap.size, 0, none⟩ (.int .i64 t)).cell? ⟨w.heap.size, 0, none⟩ = some (.int .i64 t) := World.cell?_setCell_same _ _ _ hc
   simp [Leaves, settle, results, Tryz.results102, go_sem, hcc]
   exact ⟨by simpa using HT.out, HB.out.setCell (p := ⟨w.heap.size, 0, none⟩) (Nat.le_refl _) _⟩
 | false =>
   go_wp2
   refine leaves_cons (f := 124) (args := #[.pointer (some ⟨w.heap.size, 0, none⟩)]) (by simp) (by simp [go_sem]) ?_
   refine (ask_idle ⟨w.heap.size, 0, none⟩ _).mono ?_
   rintro e u' w'' ⟨rfl, rfl, rfl⟩
   have hcc : (w1.setCell ⟨w.heap.size, 0, none⟩ (.int .i64 0)).cell? ⟨w.heap.size, 0, none⟩ = some (.int .i64 0) := World.cell?_setCell_same _ _ _ hc
   simp [Leaves, settle, results, Tryz.results102, go_sem, hcc]
   exact ⟨by simpa using HT.out, HB.out.setCell (p := ⟨w.heap.size, 0, none⟩) (Nat.le_refl _) _⟩

def verVal (o : Option Int) : Value := match o with
 | some n => .agg #[.int .i64 0, .bool true, .bool true, .int .i64 n]
 | none => .agg #[.int .i64 0, .bool true, .bool false, .int .i64 0]
def verMap (m : Made) : ByteArray → Option Value := fun k => (m k).map verVal
theorem verMap_set (m : Made) (k : ByteArray) (o : Option Int) : verMap (setM m k o) = fun j => if j = k then some (verVal o) else verMap m j := by
 funext j; unfold verMap setM; split <;> rfl
theorem verZero (w : World) : (zeroValue 78).run Tryz.prog w = .ok (.agg #[.int .i64 0, .bool false, .bool false, .int .i64 0]) w := by kernel_rfl

set_option maxHeartbeats 1000000 in
theorem has_calls (F : Nat) (caps : Array Value) (k : ByteArray) (v : ByteArray → Int) (m : Made) (mb mo n vb vo : Nat) (mm : Nat) (w : World) (hcf : Entered F) (hk : k.size ≤ maxLen) (hv : Tells w F caps k (v k))
   (hmc : w.cell? ⟨mb, mo, none⟩ = some (.map (some mm))) (hvc : w.cell? ⟨vb, vo, none⟩ = some (.func (.func F) #[] caps)) (hm : MapIs w mm n (verMap m)) :
   Calls Tryz.prog 101 #[.string k, .pointer (some ⟨mb, mo, none⟩), .pointer (some ⟨vb, vo, none⟩)] w fun e w' => e = .returned (.int .i64 (look v m k)) ∧ Below w.heap.size w w' := by
 have hl := hm.look Tryz.underlying142 (verZero w) k hk
 have hvb : vb < w.heap.size := by simpa using World.block_lt_of_cell? _ _ hvc
 have hmb : mb < w.heap.size := by simpa using World.block_lt_of_cell? _ _ hmc
 have HM : Hid (look v m k = match m k with | some (some n) => n | some none => 0 | none => v k) := rfl
 generalize look v m k = x at *
 unfold verMap at hl
 clear hm
 cases h : m k with
 | none =>
   rw [h] at hl HM
   simp only [Option.map_none, Option.getD_none, Option.isSome_none] at hl
   have HA := hid (fun W hb => ask_calls F caps k (v k) W hcf (hv.below hb))
   clear hv hcf h
   go_enter Tryz.func101, Tryz.ntmps101
   go_wp2_with fail
   refine (HA.out _ ((Below.refl _ _).alloc (Nat.le_refl _) _)).mono ?_
   rintro e w1 ⟨rfl, hb⟩
   go_wp2
   go_ret
   exact ⟨ret_int HM.out.symm, below_deep ((Below.refl _ _).alloc (Nat.le_refl _) _) hb⟩
 | some o =>
   rw [h] at hl HM
   cases o with
   | none =>
     simp only [Option.map_some, Option.getD_some, Option.isSome_some, verVal] at hl
     clear hv hcf h
     go_enter Tryz.func101, Tryz.ntmps101
     go_wp2
     go_ret
     exact ⟨ret_int HM.out.symm, (Below.refl _ _).alloc (Nat.le_refl _) _⟩
   | some y =>
     simp only [Option.map_some, Option.getD_some, Option.isSome_some, verVal] at hl
     clear hv hcf h
     go_enter Tryz.func101, Tryz.ntmps101
     go_wp2
     go_ret
     exact ⟨ret_int HM.out.symm, (Below.refl _ _).alloc (Nat.le_refl _) _⟩
end Go.Proofs.YtlhaeeenkgkdaaaGreatDoor

namespace Go.Proofs.YtlhaeeenkgkdaaaGreatDoor
open Go.RowKit

def verCell (o : Option Int) : List Value := match o with
 | some n => [.int .i64 0, .bool true, .bool true, .int .i64 n]
 | none => [.int .i64 0, .bool true, .bool false, .int .i64 0]
def verCells : List (ByteArray × Option Int) → List Value
 | [] => []
 | x :: l => verCell x.2 ++ verCells l
theorem verCell_length (o : Option Int) : (verCell o).length = 4 := by cases o <;> rfl
theorem verCell_one (o : Option Int) : ∀ u ∈ verCell o, u.oneCell' = true := by
 intro u hu; cases o <;> simp [verCell] at hu <;> rcases hu with rfl | rfl | rfl | rfl <;> rfl
theorem verCells_append : ∀ l m, verCells (l ++ m) = verCells l ++ verCells m
 | [], _ => rfl
 | x :: l, m => by simp [verCells, verCells_append l m]
theorem verCells_length : ∀ l, (verCells l).length = l.length * 4
 | [] => rfl
 | x :: l => by simp [verCells, verCell_length, verCells_length l]; omega
theorem verCells_at : ∀ (l : List (ByteArray × Option Int)) (k : Nat), k < l.length → ∀ j u, (verCell (l.getD k default).2)[j]? = some u → (verCells l)[k * 4 + j]? = some u
 | [], k, h => absurd h (Nat.not_lt_zero _)
 | x :: l, 0, _ => fun j u hu => by
   rw [verCells, List.getElem?_append_left]
   · simpa using hu
   · simpa using (List.getElem?_eq_some_iff.1 hu).1
 | x :: l, k + 1, h => fun j u hu => by
   have := verCells_at l k (by simpa using h) j u (by simpa using hu)
   rw [verCells, List.getElem?_append_right (by rw [verCell_length]; omega), verCell_length]
   rw [show (k + 1) * 4 + j - 4 = k * 4 + j from by omega]
   exact this
def keysOf (l : List (ByteArray × Option Int)) : List ByteArray := l.map (·.1)

theorem lies_one (w : World) (vs : Array Value) (t sz : Nat) (h : vs.size = sz) : Lies (w.alloc (.cells vs t)) sz (some ⟨w.heap.size, 0, none⟩) 1 1 vs.toList := by
 refine ⟨by simp [h], ⟨Nat.le_refl _, by unfold maxLen; omega, fun h => by cases h⟩, .inr ⟨_, _, rfl, fun j u hu => ?_⟩⟩
 rw [Nat.zero_add]
 exact box_cell _ _ _ _ _ (by simpa using hu)
theorem rows_apart {w : World} {B B' e e' s s' n n' : Nat} {v v' : Value} {xs xs' : List Value} (h : w.ownsRow B e s v n xs) (h' : w.ownsRow B' e' s' v' n' xs') (hne : e ≠ e') : v.ownBlock = none ∨ v.ownBlock ≠ v'.ownBlock := by
 rcases h.2 with ⟨rfl, _⟩ | ⟨g, cap, cur, rfl, _, hg, _⟩
 · exact .inl rfl
 · refine .inr fun e1 => ?_
   rcases h'.2 with ⟨rfl, _⟩ | ⟨g', cap', cur', rfl, _, hg', _⟩
   · simp [Value.ownBlock] at e1
   · simp [Value.ownBlock] at e1
     subst e1
     rw [hg] at hg'
     simp at hg'
     exact hne hg'.2
theorem le_box {B : Nat} {w : World} {o : Obj} (h : B ≤ w.heap.size) : B ≤ (w.alloc o).heap.size := by rw [World.size_alloc]; omega
def Fresh (B : Nat) (base : Option Addr) : Prop := ∀ a, base = some a → B ≤ a.block
theorem fresh_none (B : Nat) : Fresh B none := fun _ h => by cases h
theorem Lies.set {w : World} {base : Option Addr} {sz n c : Nat} {vs : List Value} (h : Lies w sz base n c vs) {B : Nat} (hf : Fresh B base) {p : Addr} (hp : p.block < B) (u : Value) : Lies (w.setCell p u) sz base n c vs := by
 refine ⟨h.len, h.hdr, ?_⟩
 rcases h.run with h0 | ⟨b, o, e, hr⟩
 · exact .inl h0
 · refine .inr ⟨b, o, e, fun j x hx => ?_⟩
   have hb : B ≤ b := hf _ e
   rw [World.cell?_setCell_other _ _ _ _ (fun e => by have := congrArg Addr.block e; simp at this; omega)]
   exact hr j x hx
theorem verInfo : (Tryz.prog.info? 78).map (fun i => (i.zero, i.size, i.bytes)) = some (some (.agg #[.int .i64 0, .bool false, .bool false, .int .i64 0]), 4, 24) := by kernel_rfl
theorem MapIs.deep {w w' : World} {b n : Nat} {f : ByteArray → Option Value} (h : MapIs w b n f) (hb : Below w.heap.size w w') : MapIs w' b n f := h.below hb h.lt

set_option maxHeartbeats 2000000 in
theorem inTurn_calls (m : Made) (W : List ByteArray) (mm n : Nat) (wb : Option Addr) (wn wc : Nat) (w : World) (hm : MapIs w mm n (verMap m)) (ht : Texts w wb wn wc W) (h5 : W.length ≤ 5) (hsm : SmallT W) :
   Calls Tryz.prog 104 #[.map (some mm), .slice wb wn wc] w fun e w' => ∃ vb vn vc kb kn kc, e = .returned (.tuple #[.slice vb vn vc, .slice kb kn kc]) ∧ Lies w' 4 vb vn vc (verCells (vers m W)) ∧ Texts w' kb kn kc (keysOf (vers m W)) ∧ Fresh w.heap.size vb ∧ Fresh w.heap.size kb ∧ Below w.heap.size w w' := by
 have HN := hid (Texts.count ht)
 have hmx : wn ≤ 5 := by rw [Texts.count ht]; exact h5
 have HM := hid hm
 have HS := hid hsm
 by_cases h0 : wn = 0
 · subst h0
   have hl : W = [] := List.eq_nil_of_length_eq_zero (by have := HN.out; omega)
   subst hl
   clear ht hm hsm h5
   go_enter Tryz.func104, Tryz.ntmps104
   go_wp2
   go_loop [6, 7, 14] (fun v kv i => v = .slice none 0 0 ∧ kv = .slice none 0 0 ∧ i = .int .i64 0) (fun _ _ _ => 0)
   case atStart => exact ⟨rfl, rfl, rfl⟩
   case round =>
     obtain ⟨rfl, rfl, rfl⟩ := hrel
     go_wp2
     go_ret2
     exact ⟨none, 0, 0, none, 0, 0, rfl, Lies.none _ _, Lies.none _ _, fresh_none _, fresh_none _, Below.refl _ _⟩
 rcases ht.run with h | ⟨b, o, rfl, h1⟩
 · exact absurd h h0
 have hbw : b < w.heap.size := h1.lt (by rw [strs_length, ← HN.out]; omega)
 have HC := hid h1
 clear h1 h0 ht hm hsm h5
 go_enter Tryz.func104, Tryz.ntmps104
 go_wp2
 go_loopw [6, 7, 14] (fun v kv i wr => ∃ j r : Nat, j ≤ wn ∧ r ≤ j ∧ i = .int .i64 j ∧ Hid ((vers m (W.take j)).length = r) ∧ wr.ownsRow w.heap.size 78 4 v r (verCells (vers m (W.take j))) ∧ wr.ownsRow w.heap.size 9 1 kv r (strs (keysOf (vers m (W.take j)))) ∧ Below w.heap.size w wr) (fun _ _ i _ => wn - (intOf i).toNat)
 case atStart => exact ⟨0, 0, Nat.zero_le _, Nat.le_refl _, rfl, rfl, World.ownsRow_nil _ _ _ _, World.ownsRow_nil _ _ _ _, Below.refl _ _⟩
 case round =>
   obtain ⟨j, r, hj, hr, rfl, HR, ho1, ho2, hbel⟩ := hrel
   have hsz := hbel.size
   by_cases hlt : j < wn
   · have hjl : j < W.length := by rw [← HN.out]; exact hlt
     have c1 := HC.out.below hbel hbw j _ (strs_at hjl)
     have hi : (j : Int) < (wn : Int) := by omega
     have hbwr : b < wr.heap.size := by omega
     have hz : (W.getD j default).size ≤ maxLen := HS.out _ (by simp [List.getD, hjl])
     have hl := (HM.out.deep hbel).look Tryz.underlying142 (verZero wr) _ hz
     have HV := hid (vers_snoc m (W.take j) (W.getD j default))
     rw [← take_snoc_getD hjl] at HV
     have H1 := hid ho1
     have H2 := hid ho2
     have HB := hid hbel
     clear ho1 ho2 hbel hz
     unfold verMap at hl
     generalize W.getD j default = x at *
     cases h : m x with
     | none =>
       rw [h] at hl HV
       simp only [Option.map_none, Option.getD_none, Option.isSome_none] at hl
       simp only [List.append_nil] at HV
       clear h
       go_wp2
       go_roundw
       case rel => exact ⟨j + 1, r, by omega, by omega, by go_num, (by show _ = _; rw [HV.out]; exact HR.out), by rw [HV.out]; exact H1.out.alloc _, by rw [HV.out]; exact H2.out.alloc _, HB.out.alloc hsz _⟩
       case measure => simp [intOf]; omega
     | some y =>
       rw [h] at hl HV
       simp only [Option.map_some, Option.getD_some, Option.isSome_some] at hl HV
       clear h
       have HL1 : Hid (verCells (vers m (W.take (j + 1))) = verCells (vers m (W.take j)) ++ verCell y) := by
         show _ = _; rw [HV.out, verCells_append]; simp [verCells]
       have HL2 : Hid (strs (keysOf (vers m (W.take (j + 1)))) = strs (keysOf (vers m (W.take j))) ++ [.string x]) := by
         show _ = _; rw [HV.out]; simp [keysOf, strs]
       have HL3 : Hid ((vers m (W.take (j + 1))).length = r + 1) := by
         show _ = _; rw [HV.out]; simp [HR.out]
       obtain ⟨hh, nn, e1, e2⟩ : ∃ (hh : Bool) (nn : Int), verVal y = .agg #[.int .i64 0, .bool true, .bool hh, .int .i64 nn] ∧ verCell y = [.int .i64 0, .bool true, .bool hh, .int .i64 nn] := by
         cases y <;> exact ⟨_, _, rfl, rfl⟩
       rw [e1] at hl
       have HY := hid (verCell_one y)
       rw [e2] at HL1 HY
       clear e1 e2
       have HC1 := hid (lies_one (wr.alloc (.cells #[.int .i64 0, .bool true, .bool hh, .int .i64 nn] 78)) #[.int .i64 0, .bool true, .bool hh, .int .i64 nn] 78 4 rfl)
       rw [World.size_alloc] at HC1
       have HO1 := hid ((H1.out.alloc (.cells #[.int .i64 0, .bool true, .bool hh, .int .i64 nn] 78)).alloc (.cells #[.int .i64 0, .bool true, .bool hh, .int .i64 nn] 78))
       have HO2 := hid ((H2.out.alloc (.cells #[.int .i64 0, .bool true, .bool hh, .int .i64 nn] 78)).alloc (.cells #[.int .i64 0, .bool true, .bool hh, .int .i64 nn] 78))
       have HAP := hid (rows_apart HO2.out HO1.out (by decide))
       have HLT := hid H1.out.lt
       have HLT2 := hid H2.out.lt
       have B1 : Hid ((r + 1) * 24 ≤ 140737488355328) := by show _ ≤ _; omega
       have B2 : Hid ((r + 1) * 16 ≤ 140737488355328) := by show _ ≤ _; omega
       have HSZ := hid hsz
       go_wp2_with (at_builtin; refine wpList_onto _ rfl _ _ 113 78 4 24 _ Tryz.underlying113 verInfo rfl (by decide) (by decide) rfl w.heap.size _ r _ rfl HO1.out _ 1 _ _ rfl HC1.out HY.out B1.out (le_box (le_box HSZ.out)) ?_)
       intro v1 w2 hown1 hg1
       have HK2 := hid ((HO2.out.kept hg1 HAP.out).alloc (.cells #[.string x] 9))
       have HV1 := hid (hown1.alloc (.cells #[.string x] 9))
       have HAP2 := hid (rows_apart HV1.out HK2.out (by decide))
       have HB2 := hid (((HB.out.alloc HSZ.out (.cells #[.int .i64 0, .bool true, .bool hh, .int .i64 nn] 78)).alloc (le_box HSZ.out) (.cells #[.int .i64 0, .bool true, .bool hh, .int .i64 nn] 78)).grown hg1 (le_box (le_box HSZ.out)) (fun y hy => (HLT.out y hy).1))
       have HC2 := hid (lies_one w2 #[.string x] 9 1 rfl)
       clear hown1 hg1
       go_wp2_with (at_builtin; refine wpList_onto _ rfl _ _ 41 9 1 16 _ Tryz.underlying41 strInfo rfl (by decide) (by decide) rfl w.heap.size _ r _ rfl HK2.out _ 1 _ _ rfl HC2.out (strs_one [x]) B2.out (le_box HB2.out.size) ?_)
       intro v3 w3 hown3 hg3
       have HV3 := hid (HV1.out.kept hg3 HAP2.out)
       have HB3 := hid ((HB2.out.alloc HB2.out.size (.cells #[.string x] 9)).grown hg3 (le_box HB2.out.size) (fun y hy => (HLT2.out y hy).1))
       clear hg3
       go_wp2
       go_roundw
       case rel => exact ⟨j + 1, r + 1, by omega, by omega, by go_num, HL3, by rw [HL1.out]; exact HV3.out, by rw [HL2.out]; exact hown3, HB3.out⟩
       case measure => simp [intOf]; omega
   · obtain rfl : j = wn := by omega
     have htk : W.take j = W := List.take_of_length_le (by rw [← HN.out]; omega)
     rw [htk] at ho1 ho2
     obtain ⟨vb, vc, rfl, l1⟩ := Lies.owned ho1
     obtain ⟨kb, kc, rfl, l2⟩ := Lies.owned ho2
     have q1 : Fresh w.heap.size vb := fun a h => (ho1.lt a.block (by rw [h]; rfl)).1
     have q2 : Fresh w.heap.size kb := fun a h => (ho2.lt a.block (by rw [h]; rfl)).1
     go_wp2
     go_ret2
     exact ⟨_, _, _, _, _, _, rfl, l1, l2, q1, q2, hbel⟩
end Go.Proofs.YtlhaeeenkgkdaaaGreatDoor
