/-
  Contracts: Add, Texts, Join.
-/
import Derived.Test.YthibdppjhfhomaaCc
import Derived.OwnWalk
import Derived.Deep.DeepCutAuto
namespace Go.Proofs.Ythibdppjhfhomaa
open Go.RowKit Go.MapKept Go.Maps Go.WideMaps

theorem infoStr : (Try.prog.info? 9).map (fun i => (i.zero, i.size, i.bytes)) = some (some (.string (S [])), 1, 16) := by kernel_rfl
theorem infoInt : (Try.prog.info? 3).map (fun i => (i.zero, i.size, i.bytes)) = some (some (.int .i64 0), 1, 8) := by kernel_rfl

/-- The strings of a slice lie in a block of strings. -/
def Ty (w : World) (v : Value) : Prop := ∀ b, v.ownBlock = some b → ∃ cs f, w.heap[b]? = some (.cells cs 9 f)
theorem Ty.fr {w w' : World} {v : Value} (h : Ty w v) (hf : Fr w w') : Ty w' v := fun b hb => by
  obtain ⟨cs, f, hc⟩ := h b hb
  exact ⟨cs, f, hf.heap hc⟩
theorem Ty.nil (w : World) (n c : Nat) : Ty w (.slice none n c) := fun b hb => by simp [Value.ownBlock] at hb
theorem Ty.own {B n : Nat} {w : World} {v : Value} {xs : List Value} (h : w.ownsRow B 9 1 v n xs) : Ty w v := fun b hb => by
  rcases h.2 with ⟨rfl, _⟩ | ⟨g, cap, cur, rfl, _, hg, _⟩
  · simp [Value.ownBlock] at hb
  · simp only [Value.ownBlock, Option.some.injEq] at hb
    subst hb
    exact ⟨_, _, hg⟩
theorem Ty.other {B n : Nat} {w w' : World} {v u : Value} {xs : List Value} {l : List Txt} (h : Ty w v) (hs : Sl w v l) (ho : w.ownsRow B 3 1 u n xs) (hg : w.grownBy w' u.ownBlock) : Sl w' v l ∧ Ty w' v := by
  have hne : ∀ b, v.ownBlock = some b → some b ≠ u.ownBlock := fun b hb => by
    obtain ⟨cs, f, hc⟩ := h b hb
    rcases ho.2 with ⟨rfl, _⟩ | ⟨g, cap, cur, rfl, _, hg, _⟩
    · simp [Value.ownBlock]
    · simp only [Value.ownBlock, ne_eq, Option.some.injEq]
      rintro rfl
      rw [hc] at hg
      simp at hg
  refine ⟨?_, fun b hb => ?_⟩
  · rcases hs with h0 | ⟨b, o, c, rfl, hc, hl⟩
    · exact .inl h0
    · exact .inr ⟨b, o, c, rfl, fun i hi => World.grownBy.cell hg (hc i hi) (hne b rfl), hl⟩
  · obtain ⟨cs, f, hc⟩ := h b hb
    refine ⟨cs, f, ?_⟩
    rw [hg.block b (Array.getElem?_eq_some_iff.1 hc).1 (hne b hb)]
    exact hc

theorem check_bad {v : Value} {l : List Txt} (w : World) (h : Sl w v l) (hl : Ok l) (hr : ¬ Rt l) :
    Calls Try.prog 24 #[v] w fun e w' => ∃ r, e = .returned (.tuple #[r, .bool false]) ∧ Fr w w' :=
  (check_any v l w h hl).mono fun _ _ ⟨⟨r, he, _⟩, hF⟩ => ⟨r, by rw [he, decide_eq_false hr], hF⟩
theorem check_good {v : Value} {l : List Txt} (w : World) (h : Sl w v l) (hl : Ok l) (hr : Rt l) :
    Calls Try.prog 24 #[v] w fun e w' => ∃ M, e = .returned (.tuple #[.map (some M), .bool true]) ∧ MapIs w' M (pmV 0 l) (dc l) ∧ Fr w w' :=
  (check_any v l w h hl).mono fun _ _ ⟨⟨r, he, hm⟩, hF⟩ => by
    obtain ⟨M, rfl, hM⟩ := hm hr
    exact ⟨M, by rw [he, decide_eq_true hr], hM, hF⟩

theorem add_bad {v : Value} {l : List Txt} (s : Txt) (w : World) (h : Sl w v l) (hl : Ok l) (hr : ¬ Rt l) :
    Calls Try.prog 10 #[v, .string (S s)] w fun e w' => e = .returned (.tuple #[.slice none 0 0, .int .i64 0, .int .i64 1]) ∧ Fr w w' := by
  go_enter Try.func10, Try.ntmps10
  go_wp2_with (go_at_call 24; refine (check_bad _ h hl hr).mono ?_; rintro e w' ⟨r, rfl, hF⟩)
  go_ret3
  exact ⟨rfl, hF⟩
theorem add_oldT {v : Value} {l : List Txt} (s : Txt) (w : World) (h : Sl w v l) (hl : Ok l) (hr : Rt l) (hs : s.length ≤ 1099511627776) {k : Nat} (hk : pm 0 l s = some k) :
    Calls Try.prog 10 #[v, .string (S s)] w fun e w' => ∃ v', e = .returned (.tuple #[v', .int .i64 k, .int .i64 0]) ∧ Sl w' v' l ∧ Fr w w' ∧ Ty w' v' := by
  have HK := Lib.hid hk
  clear hk
  go_enter Try.func10, Try.ntmps10
  go_wp2_with (first
    | (go_at_call 24; refine (check_good _ h hl hr).mono ?_; rintro e w' ⟨M, rfl, hM, hF⟩; have hlk := look_some hM hs HK.out)
    | (go_at_call 25; refine (clone_any v l _ (h.fr hF) hl).mono ?_; rintro e w2 ⟨v', rfl, ho, hF2⟩))
  go_ret3
  exact ⟨_, rfl, .own ho, hF.trans hF2, .own ho⟩
theorem add_old {v : Value} {l : List Txt} (s : Txt) (w : World) (h : Sl w v l) (hl : Ok l) (hr : Rt l) (hs : s.length ≤ 1099511627776) {k : Nat} (hk : pm 0 l s = some k) :
    Calls Try.prog 10 #[v, .string (S s)] w fun e w' => ∃ v', e = .returned (.tuple #[v', .int .i64 k, .int .i64 0]) ∧ Sl w' v' l ∧ Fr w w' :=
  (add_oldT s w h hl hr hs hk).mono fun _ _ ⟨v', he, hv, hf, _⟩ => ⟨v', he, hv, hf⟩
theorem add_full {v : Value} {l : List Txt} (s : Txt) (w : World) (h : Sl w v l) (hl : Ok l) (hr : Rt l) (hs : s.length ≤ 1099511627776) (hk : pm 0 l s = none) (hf : 1048576 < tot l + s.length) :
    Calls Try.prog 10 #[v, .string (S s)] w fun e w' => e = .returned (.tuple #[.slice none 0 0, .int .i64 0, .int .i64 6]) ∧ Fr w w' := by
  have HK := Lib.hid hk
  have HL := Lib.hid hl
  have hb1 := hl.1
  have hb2 := hl.2
  clear hk hl
  go_enter Try.func10, Try.ntmps10
  go_wp2_with (first
    | (go_at_call 24; refine (check_good _ h HL.out hr).mono ?_; rintro e w' ⟨M, rfl, hM, hF⟩; have hlk := look_none hM hs HK.out)
    | (go_at_call 26; refine (size_any v l _ (h.fr hF) (by omega) (by omega)).mono ?_; rintro e w2 ⟨rfl, rfl⟩))
  go_ret3
  exact ⟨rfl, hF⟩
theorem add_newT {v : Value} {l : List Txt} (s : Txt) (w : World) (h : Sl w v l) (hl : Ok l) (hr : Rt l) (hs : s.length ≤ 1099511627776) (hk : pm 0 l s = none) (hf : tot l + s.length ≤ 1048576) :
    Calls Try.prog 10 #[v, .string (S s)] w fun e w' => ∃ v', e = .returned (.tuple #[v', .int .i64 l.length, .int .i64 0]) ∧ Sl w' v' (l ++ [s]) ∧ Fr w w' ∧ Ty w' v' := by
  obtain ⟨i0, hi, hz0, hz1, hz2⟩ := info_parts infoStr
  have HK := Lib.hid hk
  have HL := Lib.hid hl
  have hb1 := hl.1
  have hb2 := hl.2
  obtain ⟨a, c, rfl⟩ := h.len
  clear hk hl
  go_enter Try.func10, Try.ntmps10
  go_wp2_with (first
    | (go_at_call 24; refine (check_good _ h HL.out hr).mono ?_; rintro e w' ⟨M, rfl, hM, hF⟩; have hlk := look_none hM hs HK.out)
    | (go_at_call 26; refine (size_any _ l _ (h.fr hF) (by omega) (by omega)).mono ?_; rintro e w2 ⟨rfl, rfl⟩)
    | (go_at_call 25; refine (clone_any _ l _ (h.fr hF) HL.out).mono ?_; rintro e w2 ⟨v', rfl, ho, hF2⟩; have hsz := hF2.size)
    | (at_builtin; refine wpList_append_own _ rfl _ _ 22 rfl _ 9 i0 (.string (S [])) 1 16 Try.underlying22 hi hz0 hz1 hz2 rfl (by decide) _ _ _ rfl (ho.alloc _) ⟨w2.heap.size, 0, none⟩ 1 1 [.string (S s)] rfl rfl ?c1 ?c2 ?c3 ?c4 ?c5 ?_))
  case c1 =>
    intro j u hj
    match j, hj with
    | 0, hj => simp at hj; subst hj; simp [Addr.add]
  case c2 => intro u hu; simp at hu; subst hu; rfl
  case c3 => unfold maxLen; omega
  case c4 => omega
  case c5 => simp; omega
  intro v2 w4 hown4 hgrow _
  have hw4 := (hF.trans (hF2.trans (Fr.alloc w2 (.cells #[.string (S s)] 9)))).grown hgrow (fun k hk => Nat.le_trans hF.size (ho.lt k hk).1)
  clear hgrow ho
  go_wp2_with fail
  go_ret3
  exact ⟨_, rfl, .own (by rw [strs_app]; exact hown4), hw4, .own hown4⟩
theorem add_new {v : Value} {l : List Txt} (s : Txt) (w : World) (h : Sl w v l) (hl : Ok l) (hr : Rt l) (hs : s.length ≤ 1099511627776) (hk : pm 0 l s = none) (hf : tot l + s.length ≤ 1048576) :
    Calls Try.prog 10 #[v, .string (S s)] w fun e w' => ∃ v', e = .returned (.tuple #[v', .int .i64 l.length, .int .i64 0]) ∧ Sl w' v' (l ++ [s]) ∧ Fr w w' :=
  (add_newT s w h hl hr hs hk hf).mono fun _ _ ⟨v', he, hv, hf, _⟩ => ⟨v', he, hv, hf⟩

/-- What Add returns: a list, a print, an error. -/
def addO (l : List Txt) (s : Txt) : List Txt × Nat × Nat :=
  if Rt l then (if s ∈ l ∨ tot l + s.length ≤ 1048576 then (addL l s, addN l s, 0) else ([], 0, 6)) else ([], 0, 1)
theorem add_anyT {v : Value} {l : List Txt} (s : Txt) (w : World) (h : Sl w v l) (hl : Ok l) (hs : s.length ≤ 1099511627776) :
    Calls Try.prog 10 #[v, .string (S s)] w fun e w' => ∃ v', e = .returned (.tuple #[v', .int .i64 (addO l s).2.1, .int .i64 (addO l s).2.2]) ∧ Sl w' v' (addO l s).1 ∧ Fr w w' ∧ Ty w' v' := by
  unfold addO
  by_cases hr : Rt l
  · rw [if_pos hr]
    by_cases hm : s ∈ l
    · obtain ⟨k, hk⟩ := pm_mem (i := 0) hm
      rw [if_pos (.inl hm)]
      refine (add_oldT s w h hl hr hs hk).mono fun e w' ⟨v', he, hv, hf⟩ => ⟨v', ?_, ?_, hf⟩
      · rw [he]; unfold addN; rw [hk]; rfl
      · unfold addL; rw [if_pos hm]; exact hv
    · have hk : pm 0 l s = none := pm_none.2 hm
      by_cases hf : tot l + s.length ≤ 1048576
      · rw [if_pos (.inr hf)]
        refine (add_newT s w h hl hr hs hk hf).mono fun e w' ⟨v', he, hv, hf⟩ => ⟨v', ?_, ?_, hf⟩
        · rw [he]; unfold addN; rw [hk]; rfl
        · unfold addL; rw [if_neg hm]; exact hv
      · rw [if_neg (by rintro (h | h); exact hm h; exact hf h)]
        exact (add_full s w h hl hr hs hk (by omega)).mono fun e w' ⟨he, hf⟩ => ⟨_, he, .nil _ _ _, hf, .nil _ _ _⟩
  · rw [if_neg hr]
    exact (add_bad s w h hl hr).mono fun e w' ⟨he, hf⟩ => ⟨_, he, .nil _ _ _, hf, .nil _ _ _⟩

theorem add_any {v : Value} {l : List Txt} (s : Txt) (w : World) (h : Sl w v l) (hl : Ok l) (hs : s.length ≤ 1099511627776) :
    Calls Try.prog 10 #[v, .string (S s)] w fun e w' => ∃ v', e = .returned (.tuple #[v', .int .i64 (addO l s).2.1, .int .i64 (addO l s).2.2]) ∧ Sl w' v' (addO l s).1 ∧ Fr w w' :=
  (add_anyT s w h hl hs).mono fun _ _ ⟨v', he, hv, hf, _⟩ => ⟨v', he, hv, hf⟩

/-- A slice of ints. -/
def Il (w : World) (v : Value) (l : List Int) : Prop := (l = [] ∧ ∃ a c, v = .slice a 0 c) ∨ ∃ b o c, v = .slice (some ⟨b, o, none⟩) l.length c ∧ ∀ (i : Nat) (h : i < l.length), w.cell? ⟨b, o + i, none⟩ = some (.int .i64 l[i])
theorem Il.fr {w w' : World} {v : Value} {l : List Int} (h : Il w v l) (hf : Fr w w') : Il w' v l := by
  rcases h with h | ⟨b, o, c, hv, hc⟩
  · exact .inl h
  · exact .inr ⟨b, o, c, hv, fun i hi => hf.cell (hc i hi)⟩
theorem Il.len {w : World} {v : Value} {l : List Int} (h : Il w v l) : ∃ a c, v = .slice a l.length c := by
  rcases h with ⟨rfl, a, c, rfl⟩ | ⟨b, o, c, rfl, _⟩
  · exact ⟨a, c, rfl⟩
  · exact ⟨_, _, rfl⟩
theorem Il.nil (w : World) (a : Option Addr) (c : Nat) : Il w (.slice a 0 c) [] := .inl ⟨rfl, _, _, rfl⟩

/-- What Texts returns: nothing if one of the prints is none. -/
def txts (l : List Txt) : List Int → Option (List Txt)
  | [] => some []
  | n :: q => match txt l n, txts l q with | some s, some r => some (s :: r) | _, _ => none
/-- The error of Texts. -/
def txE (o : Option (List Txt)) : Int := match o with | some _ => 0 | none => 4
theorem txts_none {l : List Txt} {q : List Int} {n : Int} (hn : n ∈ q) (h : txt l n = none) : txts l q = none := by
  induction q with
  | nil => simp at hn
  | cons m q ih =>
    unfold txts
    rcases List.mem_cons.1 hn with rfl | hm
    · rw [h]
    · rw [ih hm]
      cases txt l m <;> rfl
theorem txts_some {l : List Txt} {q : List Int} (h : ∀ n ∈ q, (txt l n).isSome) : txts l q = some (q.map fun n => (txt l n).getD []) := by
  induction q with
  | nil => rfl
  | cons m q ih =>
    have h1 := h m List.mem_cons_self
    obtain ⟨s, hs⟩ := Option.isSome_iff_exists.1 h1
    unfold txts
    rw [ih (fun n hn => h n (List.mem_cons_of_mem _ hn)), hs]
    simp [hs]

theorem text_none {v : Value} {l : List Txt} {n : Int} (w : World) (h : Sl w v l) (hl : Ok l) (h0 : -9223372036854775808 ≤ n) (h1 : n ≤ 9223372036854775807) (ht : txt l n = none) :
    Calls Try.prog 18 #[v, .int .i64 n] w fun e w' => e = .returned (.tuple #[.string (S []), .bool false]) ∧ Fr w w' :=
  (text_any v l n w h hl h0 h1).mono fun _ _ ⟨he, hf⟩ => ⟨by rw [he, ht]; rfl, hf⟩
theorem text_some {v : Value} {l : List Txt} {n : Int} {s : Txt} (w : World) (h : Sl w v l) (hl : Ok l) (h0 : -9223372036854775808 ≤ n) (h1 : n ≤ 9223372036854775807) (ht : txt l n = some s) :
    Calls Try.prog 18 #[v, .int .i64 n] w fun e w' => e = .returned (.tuple #[.string (S s), .bool true]) ∧ Fr w w' :=
  (text_any v l n w h hl h0 h1).mono fun _ _ ⟨he, hf⟩ => ⟨by rw [he, ht]; rfl, hf⟩
/-- The strings so far. -/
def tf (l : List Txt) (q : List Int) (k : Nat) (j : Nat) : Value := .string (S (if j < k then (txt l (q.getD j 0)).getD [] else []))
set_option maxHeartbeats 2000000 in
theorem texts_at (v : Value) (b o c : Nat) (l : List Txt) (q : List Int) (w : World) (h : Sl w v l) (hl : Ok l) (hc : ∀ (i : Nat) (h : i < q.length), w.cell? ⟨b, o + i, none⟩ = some (.int .i64 q[i]))
    (hn : q.length ≤ 1099511627776) (h64 : ∀ n ∈ q, -9223372036854775808 ≤ n ∧ n ≤ 9223372036854775807) :
    Calls Try.prog 15 #[v, .slice (some ⟨b, o, none⟩) q.length c] w fun e w' => ∃ v', e = .returned (.tuple #[v', .int .i64 (txE (txts l q))]) ∧ Sl w' v' ((txts l q).getD []) ∧ Fr w w' := by
  have hmk := run_make_row' (P := Try.prog) 22 9 (.string (S [])) 16 Try.underlying22 infoStr rfl .i64 .i64 q.length (by omega) (by omega)
  have H := Lib.hid h
  have HL := Lib.hid hl
  have HC := Lib.hid hc
  have H64 := Lib.hid h64
  have HR := Lib.hid (World.rowIs_made w (.string (S [])) q.length 9)
  clear h hl hc h64
  go_enter Try.func15, Try.ntmps15
  go_wp2_with fail
  clear hmk
  go_loopw [16] (fun i wr => ∃ k : Nat, k ≤ q.length ∧ i = .int .i64 k ∧ Hid (wr.rowIs w.heap.size 9 q.length (tf l q k)) ∧ Hid (Fr w wr) ∧ Hid (∀ (j : Nat) (h : j < k) (h' : j < q.length), (txt l q[j]).isSome)) (fun i _ => q.length - (intOf i).toNat)
  case atStart => exact ⟨0, Nat.zero_le _, rfl, Lib.hid (HR.out.congr fun i _ => by simp [tf]), Lib.hid (Fr.alloc w _), Lib.hid (fun j h => by omega)⟩
  case round =>
    obtain ⟨k, hk, rfl, hR, hF, hA⟩ := hrel
    by_cases hlt : k < q.length
    · have c1 := hF.out.cell (HC.out k hlt)
      have h0 := (H64.out q[k] (List.getElem_mem hlt)).1
      have h1 := (H64.out q[k] (List.getElem_mem hlt)).2
      have HM := Lib.hid (List.getElem_mem hlt)
      have HG := Lib.hid (show q.getD k 0 = q[k] by simp [List.getD, hlt])
      cases ht : txt l q[k] with
      | none =>
        have HE := Lib.hid (txts_none HM.out ht)
        have HT := Lib.hid ht
        clear ht hA hR
        generalize q[k] = n at *
        go_wp2_with (go_at_call 18; refine (text_none _ (H.out.fr hF.out) HL.out h0 h1 HT.out).mono ?_; rintro e w2 ⟨rfl, hF2⟩)
        go_ret2
        exact ⟨_, by rw [HE.out]; rfl, by rw [HE.out]; exact .nil _ _ _, hF.out.trans hF2⟩
      | some s =>
        have HT := Lib.hid ht
        have HA := Lib.hid (show ∀ (j : Nat) (h : j < k + 1) (h' : j < q.length), (txt l q[j]).isSome from fun j h h' => by
          rcases Nat.lt_or_ge j k with hj | hj
          · exact hA.out j hj h'
          · obtain rfl : j = k := by omega
            rw [ht]; rfl)
        clear ht hA
        generalize q[k] = n at *
        go_wp2_with (go_at_call 18; refine (text_some _ (H.out.fr hF.out) HL.out h0 h1 HT.out).mono ?_; rintro e w2 ⟨rfl, hF2⟩; have c2 := (hF2.row hR.out).cell hlt; have f2 := (hF2.row hR.out).frozen k; unfold tf at c2; rw [if_neg (Nat.lt_irrefl k)] at c2)
        go_roundw
        case rel =>
          refine ⟨k + 1, by omega, by go_num, Lib.hid (((hF2.row hR.out).set k _).congr fun i hi => ?_), Lib.hid ((hF.out.trans hF2).setCell (Nat.le_refl _) _ _), HA⟩
          unfold tf
          by_cases e : i = k
          · subst e
            rw [if_pos rfl, if_pos (by omega), HG.out, HT.out]; rfl
          · rw [if_neg e]
            by_cases h : i < k
            · rw [if_pos h, if_pos (by omega)]
            · rw [if_neg h, if_neg (by omega)]
        case measure => simp [intOf]; omega
    · obtain rfl : k = q.length := by omega
      have HE := Lib.hid (txts_some (l := l) (q := q) (fun n hn => by
        obtain ⟨j, hj, rfl⟩ := List.getElem_of_mem hn
        exact hA.out j hj hj))
      clear hA
      go_wp2_with fail
      go_ret2
      refine ⟨_, by rw [HE.out]; rfl, ?_, hF.out⟩
      rw [HE.out]
      refine .inr ⟨w.heap.size, 0, q.length, by simp, fun i hi => ?_, by simp⟩
      simp only [Option.getD_some, List.length_map] at hi
      rw [Nat.zero_add, hR.out.cell hi]
      simp [tf, hi]
theorem texts_nil (v : Value) (a : Option Addr) (c : Nat) (l : List Txt) (w : World) :
    Calls Try.prog 15 #[v, .slice a 0 c] w fun e w' => ∃ v', e = .returned (.tuple #[v', .int .i64 (txE (txts l []))]) ∧ Sl w' v' ((txts l []).getD []) ∧ Fr w w' := by
  have hmk : ∀ w : World, (Instr.makeSlice 22 (.int .i64 0) (.int .i64 0)).run Try.prog w = .ok (.slice (some ⟨w.heap.size, 0, none⟩) 0 0) (w.alloc (.cells (madeCells #[Value.string (S [])] 0) 9)) :=
    run_make_row' (P := Try.prog) 22 9 (.string (S [])) 16 Try.underlying22 infoStr rfl .i64 .i64 0 (by omega) (by omega)
  go_enter Try.func15, Try.ntmps15
  go_wp2_with fail
  have HF := Lib.hid (Fr.alloc w (.cells (madeCells #[Value.string (S [])] 0) 9))
  go_loopw [16] (fun i wr => i = .int .i64 0 ∧ Hid (Fr w wr)) (fun _ _ => 0)
  case atStart => exact ⟨rfl, HF⟩
  case round =>
    obtain ⟨rfl, hF⟩ := hrel
    go_wp2_with fail
    go_ret2
    exact ⟨_, rfl, .nil _ _ _, hF.out⟩
theorem texts_any (v u : Value) (l : List Txt) (q : List Int) (w : World) (h : Sl w v l) (hl : Ok l) (hq : Il w u q) (hn : q.length ≤ 1099511627776) (h64 : ∀ n ∈ q, -9223372036854775808 ≤ n ∧ n ≤ 9223372036854775807) :
    Calls Try.prog 15 #[v, u] w fun e w' => ∃ v', e = .returned (.tuple #[v', .int .i64 (txE (txts l q))]) ∧ Sl w' v' ((txts l q).getD []) ∧ Fr w w' := by
  rcases hq with ⟨rfl, a, c, rfl⟩ | ⟨b, o, c, rfl, hc⟩
  · exact texts_nil v a c l w
  · exact texts_at v b o c l q w h hl hc hn h64
end Go.Proofs.Ythibdppjhfhomaa
