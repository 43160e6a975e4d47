/-
  The document's letters of an instruction are the places of its words.
  The program's way from a part of a text to keys, and to an instruction.
-/
import Derived.Test.YthmkgfdglkdjmadGreatDoorTextFill
import Derived.Test.YthmkgfdglkdjmadGreatDoorDeedEq
import Derived.BigQuiet
namespace Go.Proofs.YthmkgfdglkdjmadGreatDoor
open Go.Lib

def placeOf (c : UInt8) : T := if c = 114 then pA else if c = 115 then pB else if c = 110 then pN else pK
theorem places_form {k : Nat} (h1 : 1 ≤ k) (h9 : k ≤ 9) : placesT k = word k :: (keyT (form k)).map placeOf := by
  have : k = 1 ∨ k = 2 ∨ k = 3 ∨ k = 4 ∨ k = 5 ∨ k = 6 ∨ k = 7 ∨ k = 8 ∨ k = 9 := by omega
  rcases this with rfl | rfl | rfl | rfl | rfl | rfl | rfl | rfl | rfl <;> decide
theorem form_letters {k : Nat} (h1 : 1 ≤ k) (h9 : k ≤ 9) : (keyT (form k)).length ≤ 2 ∧ ∀ c ∈ keyT (form k), c = 114 ∨ c = 115 ∨ c = 110 ∨ c = 107 := by
  have : k = 1 ∨ k = 2 ∨ k = 3 ∨ k = 4 ∨ k = 5 ∨ k = 6 ∨ k = 7 ∨ k = 8 ∨ k = 9 := by omega
  rcases this with rfl | rfl | rfl | rfl | rfl | rfl | rfl | rfl | rfl <;> decide
/-- What the words behind the first one are, letter by letter. -/
theorem fill_form {k : Nat} (h1 : 1 ≤ k) (h9 : k ≤ 9) (h : T) (r : List T) : fillR k (h :: r) = if r.length ≠ (keyT (form k)).length then ((2 : Int), ins00) else match fillG ((keyT (form k)).map placeOf) r (ins0 k) with
    | some i => (0, i)
    | none => (2, ins00) := by
  unfold fillR
  rw [places_form h1 h9, fillG, fillStep_word]
  simp only [List.length_cons, List.length_map, Option.bind_some]
  by_cases e : r.length = (keyT (form k)).length
  · rw [if_neg (fun x => x (by rw [e])), if_neg (fun x => x e)]; rfl
  · rw [if_pos (fun x => e (by omega)), if_pos e]; rfl
theorem step_k (w : T) (i : Ins) : fillStep (placeOf 107) w i = some (i.kind, i.a, i.b, i.n, ofT w) := rfl
theorem step_n (w : T) (i : Ins) : fillStep (placeOf 110) w i = (numOf w).map fun x => (i.kind, i.a, i.b, x, i.key) := rfl
theorem step_r (w : T) (i : Ins) : fillStep (placeOf 114) w i = (regOf w).map fun x => (i.kind, x, i.b, i.n, i.key) := rfl
theorem step_s (w : T) (i : Ins) : fillStep (placeOf 115) w i = (regOf w).map fun x => (i.kind, i.a, x, i.n, i.key) := rfl
/-- The kind, of the first j words of all. -/
def kindTo (h : T) (j : Nat) : Nat := if kindOf h < j then kindOf h else 0
theorem kindTo_end (h : T) : kindTo h 10 = kindOf h := by
  unfold kindTo
  rcases kindOf_cases h with h0 | ⟨_, h2, _⟩
  · rw [h0]; rfl
  · rw [if_pos (by omega)]
theorem kindTo_hit {h : T} {j : Nat} (h1 : 1 ≤ j) (h9 : j ≤ 9) (e : h = word j) : kindTo h (j + 1) = j := by
  unfold kindTo; rw [e, kindOf_word j h1 h9, if_pos (by omega)]
theorem kindTo_miss {h : T} {j : Nat} (e : j = 0 ∨ h ≠ word j) : kindTo h (j + 1) = kindTo h j := by
  unfold kindTo
  by_cases hk : kindOf h = j
  · rcases kindOf_cases h with h0 | ⟨h1, _, h3⟩
    · rw [h0]; split <;> split <;> rfl
    · rcases e with rfl | e
      · omega
      · rw [hk] at h3; exact absurd h3 e
  · by_cases hl : kindOf h < j
    · rw [if_pos hl, if_pos (by omega)]
    · rw [if_neg hl, if_neg (by omega)]
end Go.Proofs.YthmkgfdglkdjmadGreatDoor

namespace Go.Proofs.YthmkgfdglkdjmadGreatDoor
open Go.RowKit

/-- The pieces of a text, told by how many there are. -/
theorem pieces_cell {w w' : World} {l : List ByteArray} (h : Pieces w w' l) {j : Nat} (hj : j < l.length) : w'.cell? ⟨w.heap.size, j, none⟩ = some (.string (l.getD j default)) := by
  rw [h.is]
  refine box_cell _ _ _ _ _ ?_
  have := strs_at hj
  simpa using this
theorem pieces_tail {w w' : World} {x : ByteArray} {l : List ByteArray} (h : Pieces w w' (x :: l)) (hl : l.length ≤ maxLen) : Texts w' (some ⟨w.heap.size, 1, none⟩) l.length l.length l := by
  refine ⟨by simp [strs], ⟨Nat.le_refl _, hl, fun h => by cases h⟩, .inr ⟨_, _, rfl, fun j u hu => ?_⟩⟩
  rw [h.is]
  refine box_cell _ _ _ _ _ ?_
  rw [Nat.add_comm 1 j]
  simpa [strs] using hu
theorem spl1_len_le : ∀ (s cur : T), (spl1 cur s).length ≤ s.length + 1
  | [], cur => by simp [spl1]
  | c :: s, cur => by
    rw [spl1]
    split
    · have := spl1_len_le s []; simp; omega
    · have := spl1_len_le s (cur ++ [c]); simp; omega
theorem spl1_small : ∀ (s cur : T), ∀ x ∈ spl1 cur s, x.length ≤ cur.length + s.length
  | [], cur, x, h => by simp [spl1] at h; rw [h]; simp
  | c :: s, cur, x, h => by
    rw [spl1] at h
    split at h
    · rcases List.mem_cons.1 h with rfl | h
      · simp
      · have := spl1_small s [] x h; simp at this ⊢; omega
    · have := spl1_small s (cur ++ [c]) x h; simp at this ⊢; omega
theorem spl2_small : ∀ (s cur : T), ∀ x ∈ spl2 cur s, x.length ≤ cur.length + s.length
  | [], cur, x, h => by simp [spl2] at h; rw [h]; simp
  | [c], cur, x, h => by simp [spl2] at h; rw [h]; simp
  | c :: d :: s, cur, x, h => by
    rw [spl2] at h
    split at h
    · rcases List.mem_cons.1 h with rfl | h
      · simp
      · have := spl2_small s [] x h; simp at this ⊢; omega
    · have := spl2_small (d :: s) (cur ++ [c]) x h; simp at this ⊢; omega
theorem spl2_len_le : ∀ (s cur : T), (spl2 cur s).length ≤ s.length + 1
  | [], cur => by simp [spl2]
  | [c], cur => by simp [spl2]
  | c :: d :: s, cur => by
    rw [spl2]
    split
    · have := spl2_len_le s []; simp; omega
    · have := spl2_len_le (d :: s) (cur ++ [c]); simp at this ⊢; omega
theorem bytes_eq (a b : ByteArray) : (a.toList == b.toList) = decide (a = b) := by
  by_cases h : a = b
  · rw [streq_true h]; simp [h]
  · rw [streq_false h]; simp [h]

set_option maxHeartbeats 1000000 in
theorem parseKeys_calls (word part : ByteArray) (w : World) (hG : Ground w) (hs : part.size ≤ 100000) :
    Calls Tryz.prog 128 #[.string word, .string part] w fun e w' => ∃ o n, e = .returned (.tuple #[.slice (some ⟨w.heap.size, o, none⟩) n n, .bool (decide ((spl1 [] (keyT part)).headD [] = keyT word))]) ∧ Texts w' (some ⟨w.heap.size, o, none⟩) n n (((spl1 [] (keyT part)).drop 1).map ofT) ∧ Below w.heap.size w w' ∧ w.heap.size < w'.heap.size := by
  have HS := hid (split1_calls part w hG hs)
  have hle := spl1_len_le (keyT part) []
  rw [keyT_len] at hle
  cases hL : spl1 [] (keyT part) with
  | nil => exact absurd hL (spl1_ne _ _)
  | cons h r =>
    rw [hL] at HS hle
    simp only [List.length_cons, List.map_cons] at HS hle
    have hst := bytes_eq (ofT h) word
    have he : decide (ofT h = word) = decide (h = keyT word) := by
      by_cases e : h = keyT word
      · simp [e, ofT_keyT]
      · rw [decide_eq_false e, decide_eq_false (fun e' => e (by rw [← e', keyT_ofT]))]
    rw [he] at hst
    show Calls _ _ _ _ fun e w' => ∃ o n, e = .returned (.tuple #[.slice (some ⟨w.heap.size, o, none⟩) n n, .bool (decide (h = keyT word))]) ∧ Texts w' (some ⟨w.heap.size, o, none⟩) n n (r.map ofT) ∧ Below w.heap.size w w' ∧ w.heap.size < w'.heap.size
    generalize decide (h = keyT word) = q at *
    have HR : Hid ((r.map ofT).length = r.length) := List.length_map _
    have hrl : r.length ≤ 100000 := by omega
    generalize r.map ofT = R at *
    generalize r.length = n at *
    generalize ofT h = H at *
    clear he hle hL hG
    go_enter Tryz.func128, Tryz.ntmps128
    go_wp2_with fail
    refine HS.out.mono ?_
    rintro e w1 ⟨rfl, hp⟩
    have c0 := pieces_cell hp (j := 0) (by simp)
    have HT := hid (pieces_tail hp (by rw [HR.out]; unfold maxLen; omega))
    have HB := hid hp.below
    have HSZ : Hid (w.heap.size < w1.heap.size) := by show _ < _; rw [hp.is, World.size_alloc]; omega
    simp only [List.getD_cons_zero] at c0
    clear hp
    go_wp2
    go_quiet (fail)
    have HX : Hid (Texts (w1.drewN nq) (if n = 0 then some ⟨w.heap.size, 0, none⟩ else some ⟨w.heap.size, 1, none⟩) n n R) := by
      have h1 := HT.out
      rw [HR.out] at h1
      have h2 := h1.below (by decide) (below_drewN (Below.refl _ _) nq)
      by_cases h0 : n = 0
      · subst h0
        rw [if_pos rfl]
        exact ⟨h2.len, ⟨Nat.le_refl _, h2.hdr.max, fun h => by cases h⟩, .inl rfl⟩
      · rw [if_neg h0]; exact h2
    have HB2 := hid (below_drewN HB.out nq)
    have HO : Hid (∃ o, (if n = 0 then some (⟨w.heap.size, 0, none⟩ : Addr) else some ⟨w.heap.size, 1, none⟩) = some ⟨w.heap.size, o, none⟩) := by
      by_cases h0 : n = 0
      · exact ⟨0, by rw [if_pos h0]⟩
      · exact ⟨1, by rw [if_neg h0]⟩
    generalize (if n = 0 then some (⟨w.heap.size, 0, none⟩ : Addr) else some ⟨w.heap.size, 1, none⟩) = base at *
    go_wp2
    go_ret2
    obtain ⟨o, ho⟩ := HO.out
    subst ho
    exact ⟨o, n, rfl, HX.out, HB2.out, HSZ.out⟩

theorem instr_results (tmps : Array Value) (b : Nat) (w : World) {i : Ins} {e : Int} (h2 : tmps.getD 2 undef = .pointer (some ⟨b, 0, none⟩)) (h3 : tmps.getD 3 undef = .int .i64 e) (h : InsAt w b i) :
    (results Tryz.f129 tmps).run Tryz.prog w = .ok (.tuple #[insV i, .int .i64 e]) w := by
  have h2' : tmps[2]?.getD undef = .pointer (some ⟨b, 0, none⟩) := by simpa using h2
  have h3' : tmps[3]?.getD undef = .int .i64 e := by simpa using h3
  simp [results, Tryz.results129, go_sem, h2', h3', h.c0, h.c1, h.c2, h.c3, h.c4, insV]
/-- The kind of a word, if it is none of the first ones. -/
theorem kindOf_at {x : T} {k : Nat} (h1 : 1 ≤ k) (h9 : k ≤ 9) (h : x = word k) : kindOf x = k := by rw [h]; exact kindOf_word k h1 h9
theorem kindOf_zero {x : T} (h : ∀ j, 1 ≤ j → j < 10 → x ≠ word j) : kindOf x = 0 := by
  rcases kindOf_cases x with h0 | ⟨h1, h2, h3⟩
  · exact h0
  · exact absurd h3 (h _ h1 (by omega))

theorem shapeT_len (k : Nat) : (shapeT k).length ≤ 12 := by unfold shapeT; split <;> decide
theorem placesT_len {k : Nat} (h1 : 1 ≤ k) (h9 : k ≤ 9) : 1 ≤ (placesT k).length ∧ (placesT k).length ≤ 13 := by
  refine ⟨?_, ?_⟩
  · obtain ⟨r, hr⟩ := placesT_head h1 h9
    rw [hr]; simp
  · have := spl1_len_le (shapeT k) []
    have := shapeT_len k
    unfold placesT; omega
theorem shape_calls (k : Nat) (w : World) (hG : Ground w) :
    Calls Tryz.prog 106 #[.string (ofT (shapeT k)), .string ⟨#[32]⟩] w fun e w' => e = .returned (.slice (some ⟨w.heap.size, 0, none⟩) (placesT k).length (placesT k).length) ∧ Pieces w w' ((placesT k).map ofT) := by
  have := split1_calls (ofT (shapeT k)) w hG (by rw [ofT_size]; have := shapeT_len k; omega)
  rw [keyT_ofT] at this
  exact this
theorem text_same (a b : T) : ((ofT a).toList == (ofT b).toList) = decide (a = b) := by
  rw [bytes_eq]
  by_cases e : a = b
  · simp [e]
  · rw [decide_eq_false e, decide_eq_false (fun e' => e (by rw [← keyT_ofT a, e', keyT_ofT]))]

set_option maxHeartbeats 4000000 in
theorem parseInstr_calls (part : ByteArray) (w : World) (hG : Ground w) (hs : part.size ≤ 100000) :
    Calls Tryz.prog 129 #[.string part] w fun e w' => e = .returned (.tuple #[insV (readIns (spl1 [] (keyT part))).2, .int .i64 (readIns (spl1 [] (keyT part))).1]) ∧ Below w.heap.size w w' := by
  have hg1 := hG.below (grew w (.cells #[.int .i64 0, .int .i64 0, .int .i64 0, .int .i64 0, .string ⟨#[]⟩] 101))
  have HS := hid (split1_calls part _ hg1 hs)
  have hle := spl1_len_le (keyT part) []
  rw [keyT_len] at hle
  have HSM : Hid (∀ x ∈ spl1 [] (keyT part), x.length ≤ 100000) := fun x hx => by
    have := spl1_small (keyT part) [] x hx
    rw [keyT_len] at this; simp at this; omega
  have HG := hid hg1
  clear hG hg1
  obtain ⟨h, r, hL⟩ : ∃ h r, spl1 [] (keyT part) = h :: r := by
    cases hL : spl1 [] (keyT part) with
    | nil => exact absurd hL (spl1_ne _ _)
    | cons h r => exact ⟨h, r, rfl⟩
  have HK : Hid (∀ k, 1 ≤ k → k ≤ 9 → h = word k → readIns (spl1 [] (keyT part)) = fillRG (placesT k) (spl1 [] (keyT part)) k) := fun k h1 h9 e => by
    rw [fillRG_fillR]; exact read_fill (by rw [hL]; exact kindOf_at h1 h9 e) h1 h9
  have HZ : Hid ((∀ j, 1 ≤ j → j < 10 → h ≠ word j) → readIns (spl1 [] (keyT part)) = (1, ins00)) := fun e => read_none (by rw [hL]; exact kindOf_zero e)
  have HH : Hid (((spl1 [] (keyT part)).map ofT).getD 0 default = ofT h) := by rw [hL]; rfl
  have hl1 : 1 ≤ (spl1 [] (keyT part)).length := by rw [hL]; simp
  have hln : (spl1 [] (keyT part)).length ≤ 100001 := by omega
  generalize readIns (spl1 [] (keyT part)) = q at *
  clear hL hle
  generalize spl1 [] (keyT part) = L at *
  have HLN : Hid (∃ n, n = L.length) := ⟨_, rfl⟩
  obtain ⟨n, hn⟩ := HLN.out
  rw [← hn] at hl1 hln HS
  have HN := hid hn
  clear hn
  go_enter Tryz.func129, Tryz.ntmps129
  go_wp2_with fail
  refine HS.out.mono ?_
  rintro e w1 ⟨rfl, hp⟩
  have HP := hid hp
  have HB1 := hid (below_deep (grew w _) hp.below)
  have HI := hid ((five_new w ins00 101).below hp.below)
  have HTX := hid (hp.texts (by rw [List.length_map, ← HN.out]; unfold maxLen; omega))
  have c0 := pieces_cell hp (j := 0) (by rw [List.length_map, ← HN.out]; omega)
  rw [HH.out] at c0
  rw [World.size_alloc] at c0 HTX
  rw [List.length_map, ← HN.out] at HTX
  have HG1 := hid (HG.out.below hp.below)
  clear hp HS HP
  go_wp2
  go_loopw [5] (fun c wr => ∃ k : Nat, 1 ≤ k ∧ k ≤ 10 ∧ c = .int .i64 k ∧ Hid (∀ j, 1 ≤ j → j < k → h ≠ word j) ∧ Hid (Below w1.heap.size w1 wr)) (fun c _ => 10 - (intOf c).toNat)
  case atStart => exact ⟨1, by omega, by omega, rfl, fun j _ _ => by omega, Below.refl _ _⟩
  case round =>
    obtain ⟨k, hk1, hk10, rfl, HNO, HBR⟩ := hrel
    have HIR := hid (HI.out.below HBR.out)
    have HBW := hid (below_deep HB1.out HBR.out)
    by_cases hk : k ≤ 9
    case neg =>
      obtain rfl : k = 10 := by omega
      have HE := hid (HZ.out (fun j a b => HNO.out j a b))
      obtain ⟨b0, b1, b2, b3, b4, bf⟩ := HIR.out
      have bf0 := bf 0
      have bf1 := bf 1
      have bf2 := bf 2
      have bf3 := bf 3
      have bf4 := bf 4
      clear bf
      go_wp2
      (try simp only [Exit.inBlock, Exit.then])
      refine bodyPost_ret (instr_results _ w.heap.size _ rfl rfl (HIR.out.all ins00)) rfl ?_
      exact ⟨by rw [HE.out], below_five HBW.out (Nat.le_refl _) ins00⟩
    case pos =>
      have sc := (HG1.out.below HBR.out).shape k (by omega)
      have HS2 := hid (shape_calls k wr (HG1.out.below HBR.out))
      obtain ⟨r', hr'⟩ := placesT_head hk1 hk
      have HHD : Hid (((placesT k).map ofT).getD 0 default = ofT (word k)) := by rw [hr']; rfl
      clear hr' r'
      have hpl := placesT_len hk1 hk
      have HPL : Hid (∃ m, m = (placesT k).length) := ⟨_, rfl⟩
      obtain ⟨m, hm⟩ := HPL.out
      rw [← hm] at HS2 hpl
      have HM := hid hm
      have hm1 := hpl.1
      have hm2 := hpl.2
      clear hm hpl HPL
      have hkz : (k : Int) ≤ 9 := by omega
      have hk0 : (0 : Int) ≤ (k : Int) := by omega
      generalize ofT (shapeT k) = SH at *
      go_wp2_with fail
      refine HS2.out.mono ?_
      rintro e w2 ⟨rfl, hp2⟩
      have HB2 := hid hp2.below
      have d0 := pieces_cell hp2 (j := 0) (by rw [List.length_map, ← HM.out]; omega)
      rw [HHD.out] at d0
      have HT2 := hid (hp2.texts (by rw [List.length_map, ← HM.out]; unfold maxLen; omega))
      rw [List.length_map, ← HM.out] at HT2
      have e0 := kept_cell hp2.below (kept_cell HBR.out c0)
      have hst := text_same h (word k)
      clear hp2 sc
      by_cases hw : h = word k
      · have HQ := hid (HK.out k hk1 hk hw)
        rw [decide_eq_true hw] at hst
        clear hw
        have HFC := hid (fun qn => fill_calls (placesT k) L k (some ⟨wr.heap.size, 0, none⟩) m m (some ⟨w.heap.size + 1, 0, none⟩) n n (w2.drewN qn) (((HG1.out.below HBR.out).below HB2.out).below (below_drewN (Below.refl _ _) qn)) (HT2.out.below (by decide) (below_drewN (Below.refl _ _) qn)) (HTX.out.below (by decide) (below_drewN (below_deep HBR.out HB2.out) qn)) HSM.out)
        rw [← HQ.out] at HFC
        generalize ofT h = H at *
        generalize ofT (word k) = WK at *
        go_wp2
        go_quiet (fail)
        go_wp2_with fail
        refine (HFC.out _).mono ?_
        rintro e w3 ⟨rfl, hb3⟩
        have HB3 := hid (below_deep (below_drewN (below_deep HBW.out HB2.out) nq) hb3)
        have HI3 := hid ((HIR.out.below (below_drewN HB2.out nq)).below hb3)
        obtain ⟨b0, b1, b2, b3, b4, bf⟩ := HI3.out
        have bf0 := bf 0
        have bf1 := bf 1
        have bf2 := bf 2
        have bf3 := bf 3
        have bf4 := bf 4
        clear bf hb3
        unfold insV
        go_wp2
        (try simp only [Exit.inBlock, Exit.then])
        refine bodyPost_ret (instr_results _ w.heap.size _ rfl rfl (HI3.out.all q.2)) rfl ?_
        exact ⟨rfl, below_five HB3.out (Nat.le_refl _) q.2⟩
      · have HNN : Hid (∀ j, 1 ≤ j → j < k + 1 → h ≠ word j) := fun j a b => by
          by_cases hj : j = k
          · subst hj; exact hw
          · exact HNO.out j a (by omega)
        rw [decide_eq_false hw] at hst
        clear hw
        generalize ofT h = H at *
        generalize ofT (word k) = WK at *
        go_wp2
        go_quiet (fail)
        have HBN := hid (below_drewN (below_deep HBR.out HB2.out) nq)
        go_wp2
        go_roundw
        case rel => exact ⟨k + 1, by omega, by omega, by go_num, HNN.out, HBN.out⟩
        case measure => simp [intOf]; omega
end Go.Proofs.YthmkgfdglkdjmadGreatDoor
