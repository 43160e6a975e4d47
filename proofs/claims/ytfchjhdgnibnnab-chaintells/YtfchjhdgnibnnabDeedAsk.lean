/-
  What it means that a function of the program's own is entered when it is called by a value.
  How the program asks what a key has: its own doings first, then what it is shown.
-/
import Derived.Test.YtfchjhdgnibnnabChecked
import Derived.WalkKit
import Derived.Test.YtfchjhdgnibnnabDeedAll
import Derived.Test.YtfchjhdgnibnnabMapIs
import Derived.Defers
import Derived.Recover
namespace Go.Proofs.Ytfchjhdgnibnnab
open Go.RowKit

/-- A function of the program's own, that is entered. -/
def Entered (F : Nat) : Prop := ∀ (args : Array Value) (w : World), (callFunc F args).run Try.prog w = .ok (.enter F args) w
end Go.Proofs.Ytfchjhdgnibnnab

namespace Go.Proofs.Ytfchjhdgnibnnab
open Go.RowKit

theorem ask_idle (p : Addr) (w : World) :
    CallsD Try.prog 65 #[.pointer (some p)] .returning w fun e u' w' => e = .returned (.tuple #[]) ∧ u' = .returning ∧ w' = w := by
  refine callsD_of_wpS Try.func65 rfl fun c₀ cs hu => ?_
  apply wpS_seq
  apply wpS_region
  simp [wpOpsS, go_sem, recoverD, hu, Try.ntmps65, Exit.thenS]
  refine wpS_cond (t := false) (by simp [Act.eval, Array.replicate]) ?_
  simp only [Bool.false_eq_true, if_false]
  refine wpS_of_wp (wp_skip ?_)
  cases c₀
  simp_all [bodyPostS, results, Try.results65]

/-- What a view tells of a key, in whatever world that has grown out of w. -/
def Tells (w : World) (F : Nat) (caps : Array Value) (k : ByteArray) (x : Int) : Prop :=
  ∀ w0, Below w.heap.size w w0 → Calls Try.prog F (#[.string k] ++ caps) w0 fun e w' => (∃ (t : Int) (ok : Bool), e = .returned (.tuple #[.int .i64 t, .bool ok]) ∧ (if ok = true then t else 0) = x) ∧ Below w0.heap.size w0 w'
theorem Tells.below {w w1 : World} {F : Nat} {caps : Array Value} {k : ByteArray} {x : Int} (h : Tells w F caps k x) (hb : Below w.heap.size w w1) : Tells w1 F caps k x := fun w0 h0 => h w0 (below_deep hb h0)

theorem ask_calls (F : Nat) (caps : Array Value) (k : ByteArray) (x : Int) (w : World) (hcf : Entered F) (hv : Tells w F caps k x) :
    Calls Try.prog 52 #[.func (.func F) #[] caps, .string k] w fun e w' => e = .returned (.int .i64 x) ∧ Below w.heap.size w w' := by
  have hmf : ∀ (fn : Fn) (first cap : Array Value) (w : World), (Instr.makeFunc fn first cap).run Try.prog w = .ok (.func fn first cap) w := fun _ _ _ _ => rfl
  have HV := hid hv
  unfold Entered at hcf
  clear hv
  go_enter_defers Try.func52, Try.ntmps52
  go_wp2_with fail
  refine (HV.out _ ((Below.refl _ _).alloc (Nat.le_refl _) _)).mono ?_
  rintro e w1 ⟨⟨t, ok, rfl, ht⟩, hb⟩
  have HT := hid ht
  have HB := hid (below_deep ((Below.refl _ w).alloc (Nat.le_refl _) _) hb)
  have hc := kept_cell hb (box_cell w _ 3 0 (.int .i64 0) rfl)
  have hz : w1.frozen? ⟨w.heap.size, 0, none⟩ = false := by rw [hb.frozen (p := ⟨w.heap.size, 0, none⟩) (by simp)]; simp [go_sem]
  have hlt : w.heap.size < w1.heap.size := by have := hb.size; simp at this; omega
  clear ht hb
  cases ok with
  | true =>
    go_wp2
    refine leaves_cons (f := 65) (args := #[.pointer (some ⟨w.heap.size, 0, none⟩)]) (by simp) (by simp [go_sem]) ?_
    refine (ask_idle ⟨w.heap.size, 0, none⟩ _).mono ?_
    rintro e u' w'' ⟨rfl, rfl, rfl⟩
    have hcc : (w1.setCell ⟨w.heap.size, 0, none⟩ (.int .i64 t)).cell? ⟨w.heap.size, 0, none⟩ = some (.int .i64 t) := World.cell?_setCell_same _ _ _ hc
    simp [Leaves, settle, results, Try.results52, go_sem, hcc]
    exact ⟨by simpa using HT.out, HB.out.setCell (p := ⟨w.heap.size, 0, none⟩) (Nat.le_refl _) _⟩
  | false =>
    go_wp2
    refine leaves_cons (f := 65) (args := #[.pointer (some ⟨w.heap.size, 0, none⟩)]) (by simp) (by simp [go_sem]) ?_
    refine (ask_idle ⟨w.heap.size, 0, none⟩ _).mono ?_
    rintro e u' w'' ⟨rfl, rfl, rfl⟩
    have hcc : (w1.setCell ⟨w.heap.size, 0, none⟩ (.int .i64 0)).cell? ⟨w.heap.size, 0, none⟩ = some (.int .i64 0) := World.cell?_setCell_same _ _ _ hc
    simp [Leaves, settle, results, Try.results52, go_sem, hcc]
    exact ⟨by simpa using HT.out, HB.out.setCell (p := ⟨w.heap.size, 0, none⟩) (Nat.le_refl _) _⟩

/-- What a key is given, as the program keeps it. -/
def verVal (o : Option Int) : Value := match o with
  | some n => .agg #[.int .i64 0, .bool true, .bool true, .int .i64 n]
  | none => .agg #[.int .i64 0, .bool true, .bool false, .int .i64 0]
def verMap (m : Made) : ByteArray → Option Value := fun k => (m k).map verVal
theorem verMap_set (m : Made) (k : ByteArray) (o : Option Int) : verMap (setM m k o) = fun j => if j = k then some (verVal o) else verMap m j := by
  funext j; unfold verMap setM; split <;> rfl
theorem verZero (w : World) : (zeroValue 45).run Try.prog w = .ok (.agg #[.int .i64 0, .bool false, .bool false, .int .i64 0]) w := by kernel_rfl

set_option maxHeartbeats 1000000 in
theorem has_calls (F : Nat) (caps : Array Value) (k : ByteArray) (v : ByteArray → Int) (m : Made) (mb mo n vb vo : Nat) (mm : Nat) (w : World) (hcf : Entered F) (hk : k.size ≤ maxLen) (hv : Tells w F caps k (v k))
    (hmc : w.cell? ⟨mb, mo, none⟩ = some (.map (some mm))) (hvc : w.cell? ⟨vb, vo, none⟩ = some (.func (.func F) #[] caps)) (hm : MapIs w mm n (verMap m)) :
    Calls Try.prog 51 #[.string k, .pointer (some ⟨mb, mo, none⟩), .pointer (some ⟨vb, vo, none⟩)] w fun e w' => e = .returned (.int .i64 (look v m k)) ∧ Below w.heap.size w w' := by
  have hl := hm.look Try.underlying87 (verZero w) k hk
  have hvb : vb < w.heap.size := by simpa using World.block_lt_of_cell? _ _ hvc
  have hmb : mb < w.heap.size := by simpa using World.block_lt_of_cell? _ _ hmc
  have HM : Hid (look v m k = match m k with | some (some n) => n | some none => 0 | none => v k) := rfl
  generalize look v m k = x at *
  unfold verMap at hl
  clear hm
  cases h : m k with
  | none =>
    rw [h] at hl HM
    simp only [Option.map_none, Option.getD_none, Option.isSome_none] at hl
    have HA := hid (fun W hb => ask_calls F caps k (v k) W hcf (hv.below hb))
    clear hv hcf h
    go_enter Try.func51, Try.ntmps51
    go_wp2_with fail
    refine (HA.out _ ((Below.refl _ _).alloc (Nat.le_refl _) _)).mono ?_
    rintro e w1 ⟨rfl, hb⟩
    go_wp2
    go_ret
    exact ⟨ret_int HM.out.symm, below_deep ((Below.refl _ _).alloc (Nat.le_refl _) _) hb⟩
  | some o =>
    rw [h] at hl HM
    cases o with
    | none =>
      simp only [Option.map_some, Option.getD_some, Option.isSome_some, verVal] at hl
      clear hv hcf h
      go_enter Try.func51, Try.ntmps51
      go_wp2
      go_ret
      exact ⟨ret_int HM.out.symm, (Below.refl _ _).alloc (Nat.le_refl _) _⟩
    | some y =>
      simp only [Option.map_some, Option.getD_some, Option.isSome_some, verVal] at hl
      clear hv hcf h
      go_enter Try.func51, Try.ntmps51
      go_wp2
      go_ret
      exact ⟨ret_int HM.out.symm, (Below.refl _ _).alloc (Nat.le_refl _) _⟩
end Go.Proofs.Ytfchjhdgnibnnab
