/-
  Contracts: size, printsOf, check, Right, Print, Text.
-/
import Derived.Test.YthibdppjhfhomaaCb
namespace Go.Proofs.Ythibdppjhfhomaa
open Go.RowKit Go.MapKept Go.Maps Go.WideMaps

/-- The strings of a list lie from place o of block b on. -/
def At (w : World) (b o : Nat) (l : List Txt) : Prop := ∀ (i : Nat) (h : i < l.length), w.cell? ⟨b, o + i, none⟩ = some (.string (S l[i]))
theorem At.fr {w w' : World} {b o : Nat} {l : List Txt} (h : At w b o l) (hf : Fr w w') : At w' b o l := fun i hi => hf.cell (h i hi)
theorem At.of {w : World} {b o : Nat} {l : List Txt} (h : ∀ i x, (strs l)[i]? = some x → w.cell? ⟨b, o + i, none⟩ = some x) : At w b o l := fun i hi =>
  h i _ (by unfold strs; rw [List.getElem?_map, List.getElem?_eq_getElem hi]; rfl)
/-- A slice of strings: empty, or strings at an address. -/
def Sl (w : World) (v : Value) (l : List Txt) : Prop := (l = [] ∧ ∃ a c, v = .slice a 0 c) ∨ ∃ b o c, v = .slice (some ⟨b, o, none⟩) l.length c ∧ At w b o l ∧ l.length ≤ c
theorem Sl.fr {w w' : World} {v : Value} {l : List Txt} (h : Sl w v l) (hf : Fr w w') : Sl w' v l := by
  rcases h with h | ⟨b, o, c, hv, hc, hl⟩
  · exact .inl h
  · exact .inr ⟨b, o, c, hv, hc.fr hf, hl⟩
theorem Sl.cases {w : World} {v : Value} {l : List Txt} (h : Sl w v l) : (l = [] ∧ ∃ a c, v = .slice a 0 c) ∨ ∃ b o c, v = .slice (some ⟨b, o, none⟩) l.length c ∧ At w b o l := by
  rcases h with h | ⟨b, o, c, rfl, hc, _⟩
  · exact .inl h
  · exact .inr ⟨b, o, c, rfl, hc⟩
theorem Sl.len {w : World} {v : Value} {l : List Txt} (h : Sl w v l) : ∃ a c, v = .slice a l.length c := by
  rcases h.cases with ⟨rfl, a, c, rfl⟩ | ⟨b, o, c, rfl, _⟩
  · exact ⟨a, c, rfl⟩
  · exact ⟨_, _, rfl⟩
theorem Sl.nil (w : World) (a : Option Addr) (c : Nat) : Sl w (.slice a 0 c) [] := .inl ⟨rfl, _, _, rfl⟩
theorem Sl.own {B n : Nat} {w : World} {v : Value} {l : List Txt} (h : w.ownsRow B 9 1 v n (strs l)) : Sl w v l := by
  have hl := h.1
  rw [strs_len] at hl
  rcases h.2 with ⟨rfl, hx⟩ | ⟨g, cap, cur, rfl, hB, hg, hn, _, hs, ht⟩
  · have h0 : l = [] := List.length_eq_zero_iff.1 (by omega)
    exact .inl ⟨h0, none, 0, rfl⟩
  · refine .inr ⟨g, 0, cap, by rw [hl, Nat.mul_one], .of fun i x hx => ?_, by omega⟩
    rw [Lib.cell_of_heap hg, Nat.zero_add]
    rw [← ht, List.getElem?_take] at hx
    split at hx
    · simpa using hx
    · cases hx

/-- A nil slice has no room. -/
def Nz (v : Value) : Prop := ∀ n c, v = .slice none n c → n = 0 ∧ c = 0

theorem size_at (b o c : Nat) (l : List Txt) (w : World) (hc : At w b o l) (hn : l.length ≤ 4611686018427387904) (ht : tot l ≤ 4611686018427387904) :
    Calls Try.prog 26 #[.slice (some ⟨b, o, none⟩) l.length c] w fun e w' => e = .returned (.int .i64 (tot l)) ∧ w' = w := by
  have H1 := Lib.hid ht
  have H2 := Lib.hid hc
  clear ht hc
  go_enter Try.func26, Try.ntmps26
  go_wp2_with fail
  go_loopw [3, 8] (fun n i wr => ∃ k : Nat, k ≤ l.length ∧ i = .int .i64 k ∧ n = .int .i64 (tot (l.take k)) ∧ wr = w) (fun _ i _ => l.length - (intOf i).toNat)
  case atStart => exact ⟨0, Nat.zero_le _, rfl, rfl, rfl⟩
  case round =>
    obtain ⟨k, hk, rfl, rfl, rfl⟩ := hrel
    by_cases hlt : k < l.length
    · have c1 := H2.out k hlt
      have H3 := Lib.hid (tot_take_succ l k hlt)
      have H4 := tot_take l (k + 1)
      rw [tot_take_succ l k hlt] at H4
      have h5 := H1.out
      have h4 : tot (l.take k) + l[k].length ≤ 4611686018427387904 := by omega
      clear H4 h5
      generalize l[k] = x at *
      generalize tot (l.take k) = y at *
      go_wp2_with fail
      go_roundw
      case rel => exact ⟨k + 1, by omega, by go_num, by rw [H3.out]; go_num, trivial⟩
      case measure => simp [intOf]; omega
    · have hkl : k = l.length := by omega
      have hT : tot (l.take k) = tot l := by rw [hkl, List.take_length]
      rw [hT]
      clear hT
      go_wp2_with fail
      go_ret
      exact ⟨rfl, rfl⟩
theorem size_nil (a : Option Addr) (c : Nat) (w : World) :
    Calls Try.prog 26 #[.slice a 0 c] w fun e w' => e = .returned (.int .i64 (tot [] : Nat)) ∧ w' = w := by
  go_enter Try.func26, Try.ntmps26
  go_wp2_with fail
  go_loopw [3, 8] (fun n i wr => i = .int .i64 0 ∧ n = .int .i64 0 ∧ wr = w) (fun _ _ _ => 0)
  case atStart => exact ⟨rfl, rfl, rfl⟩
  case round =>
    obtain ⟨rfl, rfl, rfl⟩ := hrel
    go_wp2_with fail
    go_ret
    exact ⟨rfl, rfl⟩
theorem size_any (v : Value) (l : List Txt) (w : World) (h : Sl w v l) (hn : l.length ≤ 4611686018427387904) (ht : tot l ≤ 4611686018427387904) :
    Calls Try.prog 26 #[v] w fun e w' => e = .returned (.int .i64 (tot l)) ∧ w' = w := by
  rcases h.cases with ⟨rfl, a, c, rfl⟩ | ⟨b, o, c, rfl, hc⟩
  · exact size_nil a c w
  · exact size_at b o c l w hc hn ht

theorem printsOf_at (b o c : Nat) (l : List Txt) (w : World) (hc : At w b o l) (hn : l.length ≤ 4611686018427387904) (hs : ∀ s ∈ l, s.length ≤ maxLen) :
    Calls Try.prog 28 #[.slice (some ⟨b, o, none⟩) l.length c] w fun e w' => e = .returned (.map (some w.heap.size)) ∧ MapIs w' w.heap.size (pmV 0 l) (dc l) ∧ Fr w w' := by
  have H1 := Lib.hid hs
  have H2 := Lib.hid hc
  have hmk := run_make
  have hN := Lib.hid (MapIs.new w)
  clear hs hc
  go_enter Try.func28, Try.ntmps28
  go_wp2_with fail
  go_loopw [4] (fun i wr => ∃ k : Nat, k ≤ l.length ∧ i = .int .i64 ((k : Int) - 1) ∧ Hid (MapIs wr w.heap.size (pmV k (l.drop k)) (dc (l.drop k))) ∧ Hid (Fr w wr)) (fun i _ => ((intOf i) + 1).toNat)
  case atStart => exact ⟨l.length, Nat.le_refl _, by go_num, Lib.hid (by rw [List.drop_length]; exact hN.out), Lib.hid (Fr.alloc w _)⟩
  case round =>
    obtain ⟨k, hk, rfl, hM, hF⟩ := hrel
    rcases Nat.eq_zero_or_pos k with rfl | hp
    · go_wp2_with fail
      go_ret
      exact ⟨rfl, by simpa using hM.out, hF.out⟩
    · obtain ⟨j, rfl⟩ : ∃ j, k = j + 1 := ⟨k - 1, by omega⟩
      have hj : j < l.length := by omega
      have c1 := hF.out.cell (H2.out j hj)
      have hlen : l[j].length ≤ maxLen := H1.out _ (List.getElem_mem hj)
      obtain ⟨w1, hst, hM1, ho⟩ := hM.out.store (m' := pmV j (l.drop j)) (n' := dc (l.drop j)) l[j] hlen (.int .i64 (j : Int))
        (fun t => by rw [List.drop_eq_getElem_cons hj]; exact pmV_cons j _ _ t) (by rw [List.drop_eq_getElem_cons hj, dc_step (l.drop (j + 1)) 0 l[j] (j + 1)]; simp only [pmV_none])
      have HM1 := Lib.hid hM1
      have HF1 := Lib.hid (hF.out.only (Nat.le_refl _) ho)
      have HO := Lib.hid hlen
      have hjj : ((j + 1 : Nat) : Int) - 1 = (j : Int) := by omega
      rw [hjj]
      clear hM1 ho hM hF hlen hjj
      generalize l[j] = x at *
      go_wp2_with (at_mapUpdate; refine wpList_map_store rfl _ _ _ _ rfl _ _ _ rfl rfl rfl hst rfl ?_)
      go_roundw
      case rel => exact ⟨j, by omega, by go_num, HM1, HF1⟩
      case measure => simp [intOf]
theorem printsOf_nil (a : Option Addr) (c : Nat) (w : World) :
    Calls Try.prog 28 #[.slice a 0 c] w fun e w' => e = .returned (.map (some w.heap.size)) ∧ MapIs w' w.heap.size (pmV 0 []) (dc []) ∧ Fr w w' := by
  have hmk := run_make
  have hN := Lib.hid (MapIs.new w)
  go_enter Try.func28, Try.ntmps28
  go_wp2_with fail
  go_loopw [4] (fun i wr => i = .int .i64 (-1) ∧ wr = w.alloc (.map #[] 0)) (fun _ _ => 0)
  case atStart => exact ⟨rfl, rfl⟩
  case round =>
    obtain ⟨rfl, rfl⟩ := hrel
    go_wp2_with fail
    go_ret
    exact ⟨rfl, hN.out, Fr.alloc w _⟩
theorem printsOf_any (v : Value) (l : List Txt) (w : World) (h : Sl w v l) (hn : l.length ≤ 4611686018427387904) (hs : ∀ s ∈ l, s.length ≤ maxLen) :
    Calls Try.prog 28 #[v] w fun e w' => e = .returned (.map (some w.heap.size)) ∧ MapIs w' w.heap.size (pmV 0 l) (dc l) ∧ Fr w w' := by
  rcases h.cases with ⟨rfl, a, c, rfl⟩ | ⟨b, o, c, rfl, hc⟩
  · exact printsOf_nil a c w
  · exact printsOf_at b o c l w hc hn hs

/-- What is asked of a list that a call gets. -/
def Ok (l : List Txt) : Prop := l.length ≤ 1099511627776 ∧ tot l ≤ 1099511627776
theorem Ok.mem {l : List Txt} (h : Ok l) : ∀ s ∈ l, s.length ≤ maxLen := fun s hs => by
  have := tot_mem hs
  have := h.2
  unfold maxLen
  omega

theorem check_any (v : Value) (l : List Txt) (w : World) (h : Sl w v l) (hl : Ok l) :
    Calls Try.prog 24 #[v] w fun e w' => (∃ r, e = .returned (.tuple #[r, .bool (decide (Rt l))]) ∧ (Rt l → ∃ M, r = .map (some M) ∧ MapIs w' M (pmV 0 l) (dc l))) ∧ Fr w w' := by
  have H := Lib.hid h
  have HL := Lib.hid hl
  obtain ⟨a, c, hv⟩ := h.len
  have HV := Lib.hid hv
  have hb := hl.1
  have ht := hl.2
  have htt : (tot l : Int) ≤ 1099511627776 := by omega
  go_enter Try.func24, Try.ntmps24
  clear h hl hv
  by_cases hbig : tot l ≤ 1048576
  · go_wp2_with (go_at_call 26; refine (size_any v l _ H.out (by have := HL.out.1; omega) (by have := HL.out.2; omega)).mono ?_; rintro e w' ⟨rfl, rfl⟩)
    go_wp2_with (go_at_call 28; refine (printsOf_any v l _ H.out (by have := HL.out.1; omega) HL.out.mem).mono ?_; rintro e w' ⟨rfl, hM, hF⟩)
    have hlen := hM.len
    have hsl := HV.out
    have hd := dc_le l
    subst hsl
    go_wp2_with fail
    go_ret2
    have hdec : decide (Rt l) = (((dc l : Nat) : Int) == ((l.length : Nat) : Int)) := by
      rw [Bool.eq_iff_iff]
      simp only [decide_eq_true_eq, beq_iff_eq]
      rw [show ((dc l : Int) = l.length) ↔ dc l = l.length from by omega, dc_full]
      exact ⟨(·.1), fun h => ⟨h, hbig⟩⟩
    rw [hdec]
    refine ⟨⟨_, by rfl, fun _ => ⟨_, rfl, hM⟩⟩, hF⟩
  · go_wp2_with (go_at_call 26; refine (size_any v l _ H.out (by have := HL.out.1; omega) (by have := HL.out.2; omega)).mono ?_; rintro e w' ⟨rfl, rfl⟩)
    go_ret2
    have hdec : decide (Rt l) = false := decide_eq_false (fun hr => hbig hr.2)
    rw [hdec]
    refine ⟨⟨_, by rfl, fun hr => absurd hr.2 hbig⟩, Fr.refl _⟩

theorem right_any (v : Value) (l : List Txt) (w : World) (h : Sl w v l) (hl : Ok l) :
    Calls Try.prog 20 #[v] w fun e w' => e = .returned (.bool (decide (Rt l))) ∧ Fr w w' := by
  go_enter Try.func20, Try.ntmps20
  go_wp2_with (go_at_call 24; refine (check_any v l _ h hl).mono ?_; rintro e w' ⟨⟨r, rfl, _⟩, hF⟩)
  go_ret
  exact ⟨rfl, hF⟩

/-- The print of s, or -1. -/
def prt (l : List Txt) (s : Txt) : Int := match pm 0 l s with | some k => (k : Int) | none => -1
theorem look_none {w : World} {M n : Nat} {l : List Txt} {s : Txt} (h : MapIs w M (pmV 0 l) n) (hs : s.length ≤ 1099511627776) (hp : pm 0 l s = none) :
    (Instr.lookup 42 (.map (some M)) (.string (S s)) true).run Try.prog w = .ok (.tuple #[.int .i64 0, .bool false]) w := by
  have hlk := h.look s (by unfold maxLen; omega)
  unfold pmV at hlk
  rw [hp] at hlk
  exact hlk
theorem look_some {w : World} {M n : Nat} {l : List Txt} {s : Txt} {k : Nat} (h : MapIs w M (pmV 0 l) n) (hs : s.length ≤ 1099511627776) (hp : pm 0 l s = some k) :
    (Instr.lookup 42 (.map (some M)) (.string (S s)) true).run Try.prog w = .ok (.tuple #[.int .i64 k, .bool true]) w := by
  have hlk := h.look s (by unfold maxLen; omega)
  unfold pmV at hlk
  rw [hp] at hlk
  exact hlk
theorem print_any (v : Value) (l : List Txt) (s : Txt) (w : World) (h : Sl w v l) (hl : Ok l) (hs : s.length ≤ 1099511627776) :
    Calls Try.prog 22 #[v, .string (S s)] w fun e w' => e = .returned (.int .i64 (prt l s)) ∧ Fr w w' := by
  have hb := hl.1
  cases hp : pm 0 l s with
  | none =>
    have hv : prt l s = -1 := by unfold prt; rw [hp]
    have HP := Lib.hid hp
    rw [hv]
    clear hp hv
    go_enter Try.func22, Try.ntmps22
    go_wp2_with (go_at_call 28; refine (printsOf_any v l _ h (by omega) hl.mem).mono ?_; rintro e w' ⟨rfl, hM, hF⟩; have hlk := look_none hM hs HP.out)
    go_ret
    exact ⟨rfl, hF⟩
  | some k =>
    have hv : prt l s = (k : Int) := by unfold prt; rw [hp]
    have HP := Lib.hid hp
    rw [hv]
    clear hp hv
    go_enter Try.func22, Try.ntmps22
    go_wp2_with (go_at_call 28; refine (printsOf_any v l _ h (by omega) hl.mem).mono ?_; rintro e w' ⟨rfl, hM, hF⟩; have hlk := look_some hM hs HP.out)
    go_ret
    exact ⟨rfl, hF⟩

/-- The content with print n. -/
def txt (l : List Txt) (n : Int) : Option Txt := if n < 0 then none else l[n.toNat]?
theorem text_any (v : Value) (l : List Txt) (n : Int) (w : World) (h : Sl w v l) (hl : Ok l) (h0 : -9223372036854775808 ≤ n) (h1 : n ≤ 9223372036854775807) :
    Calls Try.prog 18 #[v, .int .i64 n] w fun e w' => e = .returned (.tuple #[.string (S ((txt l n).getD [])), .bool (txt l n).isSome]) ∧ Fr w w' := by
  have hb := hl.1
  by_cases hn : n < 0
  · unfold txt
    rw [if_pos hn]
    go_enter Try.func18, Try.ntmps18
    go_wp2_with fail
    go_ret2
    exact ⟨rfl, Fr.refl _⟩
  · obtain ⟨k, rfl⟩ : ∃ k : Nat, n = (k : Int) := ⟨n.toNat, by omega⟩
    have ht : txt l (k : Int) = l[k]? := by unfold txt; rw [if_neg hn, Int.toNat_natCast]
    rw [ht]
    clear ht
    by_cases hk : k < l.length
    · rcases h.cases with ⟨rfl, _⟩ | ⟨b, o, c, rfl, hc⟩
      · simp at hk
      · have c1 := hc k hk
        rw [List.getElem?_eq_getElem hk]
        clear hc h
        generalize l[k] = x at *
        go_enter Try.func18, Try.ntmps18
        go_wp2_with fail
        go_ret2
        exact ⟨rfl, Fr.refl _⟩
    · obtain ⟨a, c, rfl⟩ := h.len
      rw [List.getElem?_eq_none (by omega)]
      clear h
      go_enter Try.func18, Try.ntmps18
      go_wp2_with fail
      go_ret2
      exact ⟨rfl, Fr.refl _⟩

theorem clone_any (v : Value) (l : List Txt) (w : World) (h : Sl w v l) (hl : Ok l) :
    Calls Try.prog 25 #[v] w fun e w' => ∃ v', e = .returned v' ∧ w'.ownsRow w.heap.size 9 1 v' l.length (strs l) ∧ Fr w w' := by
  rcases h.cases with ⟨rfl, a, c, rfl⟩ | ⟨b, o, c, rfl, hc⟩
  · cases a with
    | none => exact (Try.slices_Clone_string_nil 0 c w).mono fun e w' ⟨he, hw⟩ => ⟨_, he, ⟨rfl, .inl ⟨rfl, rfl⟩⟩, hw ▸ Fr.refl _⟩
    | some a => exact (Try.slices_Clone_string_zero a c w).mono fun e w' ⟨v', he, ho, _, hb⟩ => ⟨_, he, ho, .of_below hb⟩
  · have hb := hl.1
    refine (Try.slices_Clone_string b o l.length c (l.map S) w (by simp) (by omega) (fun j hj => ?_)).mono fun e w' ⟨v', he, ho, _, hb⟩ => ⟨_, he, ?_, .of_below hb⟩
    · have hj' : j < l.length := by simpa using hj
      rw [hc j hj']
      simp [List.getD, hj']
    · have e1 : List.take l.length (l.map S) = l.map S := by rw [List.take_of_length_le]; simp
      rw [e1, List.map_map] at ho
      exact ho
end Go.Proofs.Ythibdppjhfhomaa
