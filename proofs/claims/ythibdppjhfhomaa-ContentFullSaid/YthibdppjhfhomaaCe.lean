/-
  Contract: Join.
-/
import Derived.Test.YthibdppjhfhomaaCd
namespace Go.Proofs.Ythibdppjhfhomaa
open Go.RowKit Go.MapKept Go.Maps Go.WideMaps

theorem right_bad {v : Value} {l : List Txt} (w : World) (h : Sl w v l) (hl : Ok l) (hr : ¬ Rt l) : Calls Try.prog 20 #[v] w fun e w' => e = .returned (.bool false) ∧ Fr w w' :=
  (right_any v l w h hl).mono fun _ _ ⟨he, hf⟩ => ⟨by rw [he, decide_eq_false hr], hf⟩
theorem right_good {v : Value} {l : List Txt} (w : World) (h : Sl w v l) (hl : Ok l) (hr : Rt l) : Calls Try.prog 20 #[v] w fun e w' => e = .returned (.bool true) ∧ Fr w w' :=
  (right_any v l w h hl).mono fun _ _ ⟨he, hf⟩ => ⟨by rw [he, decide_eq_true hr], hf⟩

theorem join_bad1 {v u : Value} {a : List Txt} (w : World) (h : Sl w v a) (ha : Ok a) (hr : ¬ Rt a) :
    Calls Try.prog 13 #[v, u] w fun e w' => e = .returned (.tuple #[.slice none 0 0, .slice none 0 0, .int .i64 1]) ∧ Fr w w' := by
  go_enter Try.func13, Try.ntmps13
  go_wp2_with (go_at_call 24; refine (check_bad _ h ha hr).mono ?_; rintro e w' ⟨r, rfl, hF⟩)
  go_ret3
  exact ⟨rfl, hF⟩
theorem join_bad2 {v u : Value} {a b : List Txt} (w : World) (h : Sl w v a) (ha : Ok a) (hr : Rt a) (h' : Sl w u b) (hb : Ok b) (hr' : ¬ Rt b) :
    Calls Try.prog 13 #[v, u] w fun e w' => e = .returned (.tuple #[.slice none 0 0, .slice none 0 0, .int .i64 1]) ∧ Fr w w' := by
  go_enter Try.func13, Try.ntmps13
  go_wp2_with (first
    | (go_at_call 24; refine (check_good _ h ha hr).mono ?_; rintro e w' ⟨M, rfl, hM, hF⟩)
    | (go_at_call 20; refine (right_bad _ (h'.fr hF) hb hr').mono ?_; rintro e w2 ⟨rfl, hF2⟩))
  go_ret3
  exact ⟨rfl, hF.trans hF2⟩

theorem own_base {w : World} {base e size n : Nat} {v : Value} {xs : List Value} (h : w.ownsRow base e size v n xs) {b : Nat} (hb : b ≤ base) : w.ownsRow b e size v n xs := by
  refine ⟨h.1, ?_⟩
  rcases h.2 with hn | ⟨g, cap, cur, h1, h2, h3⟩
  · exact .inl hn
  · exact .inr ⟨g, cap, cur, h1, by omega, h3⟩
/-- A row of another type is another block. -/
theorem own_ne {w : World} {base e e' size n m P : Nat} {v : Value} {xs : List Value} {f : Nat → Value} (h : w.ownsRow base e size v n xs) (hr : w.rowIs P e' m f) (hne : e ≠ e') : some P ≠ v.ownBlock := by
  rcases h.2 with ⟨rfl, _⟩ | ⟨g, cap, cur, rfl, _, hg, _⟩
  · simp [Value.ownBlock]
  · obtain ⟨c, hc, _⟩ := hr
    simp only [Value.ownBlock, ne_eq, Option.some.injEq]
    rintro rfl
    rw [hc] at hg
    cases hg
    exact hne rfl
theorem own_set {w : World} {base e e' size n m P : Nat} {v : Value} {xs : List Value} {f : Nat → Value} (h : w.ownsRow base e size v n xs) (hr : w.rowIs P e' m f) (hne : e ≠ e') (i : Nat) (x : Value) :
    (w.setCell ⟨P, i, none⟩ x).ownsRow base e size v n xs := by
  have hn := own_ne h hr hne
  refine ⟨h.1, ?_⟩
  rcases h.2 with hv | ⟨g, cap, cur, rfl, h2, hg, h3⟩
  · exact .inl hv
  · refine .inr ⟨g, cap, cur, rfl, h2, ?_, h3⟩
    rw [heap_setCell_other w ⟨P, i, none⟩ g x (by simp only [Value.ownBlock, ne_eq, Option.some.injEq] at hn; exact fun e => hn e.symm)]
    exact hg
theorem own_row {w w' : World} {base e e' size n m P : Nat} {v : Value} {xs : List Value} {f : Nat → Value} (h : w.ownsRow base e size v n xs) (hr : w.rowIs P e' m f) (hne : e ≠ e') (hg : w.grownBy w' v.ownBlock) : w'.rowIs P e' m f :=
  hr.of_block (hg.block P hr.lt (own_ne h hr hne))
theorem MapIs.set {w : World} {M P e m : Nat} {f : Nat → Value} {g : Txt → Option Value} {n : Nat} (h : MapIs w M g n) (hr : w.rowIs P e m f) (i : Nat) (x : Value) : MapIs (w.setCell ⟨P, i, none⟩ x) M g n := by
  obtain ⟨es, clock, hb, h'⟩ := h
  obtain ⟨c, hc, _⟩ := hr
  refine ⟨es, clock, ?_, h'⟩
  rw [heap_setCell_other w ⟨P, i, none⟩ M x (by rintro rfl; rw [hc] at hb; cases hb)]
  exact hb
theorem MapIs.own {w w' : World} {M base e size k : Nat} {v : Value} {xs : List Value} {g : Txt → Option Value} {n : Nat} (h : MapIs w M g n) (ho : w.ownsRow base e size v k xs) (hg : w.grownBy w' v.ownBlock) : MapIs w' M g n := by
  have hlt := h.lt
  obtain ⟨es, clock, hb, h'⟩ := h
  refine ⟨es, clock, ?_, h'⟩
  rw [hg.block M hlt ?_]
  · exact hb
  · rcases ho.2 with ⟨rfl, _⟩ | ⟨g, cap, cur, rfl, _, hg, _⟩
    · simp [Value.ownBlock]
    · simp only [Value.ownBlock, ne_eq, Option.some.injEq]
      rintro rfl
      rw [hb] at hg
      cases hg

/-- The prints so far. -/
def jf (a b : List Txt) (k j : Nat) : Value := .int .i64 (if j < k then (pj a b (b.getD j []) : Int) else 0)

set_option maxHeartbeats 2000000 in
theorem join_good {v : Value} {ad : Option Addr} {c : Nat} {a b : List Txt} (w : World) (h : Sl w v a) (ha : Ok a) (hr : Rt a) (h' : Sl w (.slice ad b.length c) b) (hb : Ok b) (hr' : Rt b) :
    Calls Try.prog 13 #[v, .slice ad b.length c] w fun e w' => ∃ v' u', e = .returned (.tuple #[v', u', .int .i64 (if tot (joinL a b) ≤ 1048576 then 0 else 6)]) ∧
      Sl w' v' (if tot (joinL a b) ≤ 1048576 then joinL a b else []) ∧ Il w' u' (if tot (joinL a b) ≤ 1048576 then b.map (fun s => (pj a b s : Int)) else []) ∧ Fr w w' := by
  have hbl := hb.1
  have hmk := run_make_row' (P := Try.prog) 23 3 (.int .i64 0) 8 Try.underlying23 infoInt rfl .i64 .i64 b.length (by omega) (by omega)
  have HA := Lib.hid ha
  have HB := Lib.hid hb
  have ha1 := Lib.hid ha.1
  have HRB := Lib.hid hr'
  have HSB := Lib.hid h'
  have HSA := Lib.hid h
  clear ha hb h h'
  go_enter Try.func13, Try.ntmps13
  go_upto_region 4 with (first
    | (go_at_call 24; refine (check_good _ HSA.out HA.out hr).mono ?_; rintro e w1 ⟨M, rfl, hM, hF⟩)
    | (go_at_call 20; refine (right_good _ (HSB.out.fr hF) HB.out HRB.out).mono ?_; rintro e w2 ⟨rfl, hF2⟩))
  have HM2 := Lib.hid (hM.fr hF2)
  have HF2 := Lib.hid (hF.trans hF2)
  have HSA2 := Lib.hid ((HSA.out.fr HF2.out).fr (Fr.drew w2))
  clear hM hF hF2
  go_cut [9, 10] (fun j p wx => ∃ P : Nat, p = .slice (some ⟨P, 0, none⟩) b.length b.length ∧ Hid (wx.ownsRow w.heap.size 9 1 j a.length (strs a)) ∧ Hid (wx.rowIs P 3 b.length (fun _ => .int .i64 0)) ∧ Hid (w.heap.size ≤ P) ∧ Hid (Fr w2 wx))
  case first =>
    go_wp2_with fail
    go_region_with (go_at_call 25; refine (clone_any v a _ (by first | exact HSA2.out | exact HSA2.out.fr (Fr.alloc _ _)) HA.out).mono ?_; rintro e w3 ⟨v', rfl, ho, hF3⟩)
    all_goals (go_wp2_with fail; go_meet)
    all_goals first
      | exact ⟨w3.heap.size, rfl, Lib.hid (own_base (ho.alloc _) HF2.out.size), Lib.hid (World.rowIs_made w3 (.int .i64 0) b.length 3), Lib.hid (Nat.le_trans HF2.out.size hF3.size), Lib.hid ((Fr.drew w2).trans (hF3.trans (Fr.alloc w3 _)))⟩
      | exact ⟨w2.drew.heap.size, rfl, Lib.hid (own_base ho (Nat.le_trans HF2.out.size (Fr.alloc w2.drew (.cells (madeCells #[.int .i64 0] b.length) 3)).size)), Lib.hid (hF3.row (World.rowIs_made w2.drew (.int .i64 0) b.length 3)), Lib.hid HF2.out.size, Lib.hid ((Fr.drew w2).trans ((Fr.alloc w2.drew _).trans hF3))⟩
  case rest =>
    obtain ⟨P, rfl, hO, hR, hP, hF3⟩ := hcut
    obtain ⟨i0, hi, hz0, hz1, hz2⟩ := info_parts infoStr
    have HW := Lib.hid (HF2.out.trans hF3.out)
    have HM3 := Lib.hid (HM2.out.fr hF3.out)
    have HO := Lib.hid hO.out
    have HR := Lib.hid hR.out
    have hal := ha1.out
    clear hmk hO hR
    go_wp2_with fail
    go_loopw [9, 34] (fun j i wr => ∃ k : Nat, k ≤ b.length ∧ i = .int .i64 k ∧ Hid (wr.ownsRow w.heap.size 9 1 j (joinL a (b.take k)).length (strs (joinL a (b.take k)))) ∧ Hid (wr.rowIs P 3 b.length (jf a b k)) ∧ Hid (MapIs wr M (pmV 0 a) (dc a)) ∧ Hid (Fr w wr)) (fun _ i _ => b.length - (intOf i).toNat)
    case atStart => exact ⟨0, Nat.zero_le _, rfl, Lib.hid (by rw [List.take_zero, joinL_nil]; exact HO.out), Lib.hid (HR.out.congr fun i _ => by simp [jf]), HM3, HW⟩
    case round =>
      obtain ⟨k, hk, rfl, hO, hR, hM, hF⟩ := hrel
      have hjl : (joinL a (b.take k)).length ≤ a.length + b.length := by
        unfold joinL
        rw [List.length_append]
        have h1 := List.length_filter_le (fun s => decide (s ∉ a)) (b.take k)
        have h2 : (b.take k).length ≤ b.length := by rw [List.length_take]; omega
        omega
      obtain ⟨ja, jc, rfl⟩ := (Sl.own hO.out).len
      by_cases hlt : k < b.length
      · rcases (HSB.out.fr hF.out) with ⟨hb0, _⟩ | ⟨B, o, c', hv, hc, _⟩
        · rw [hb0] at hlt; simp at hlt
        · obtain ⟨rfl, rfl⟩ : ad = some ⟨B, o, none⟩ ∧ c = c' := by simpa using hv
          have c1 := hc k hlt
          have hsl : b[k].length ≤ 1099511627776 := Nat.le_trans (tot_mem (List.getElem_mem hlt)) HB.out.2
          have HG := Lib.hid (show b.getD k [] = b[k] by simp [List.getD, hlt])
          have HJ := Lib.hid (joinL_take_succ a b k hlt)
          have hRk := hR.out.cell hlt
          have hRf := hR.out.frozen k
          have HJK : Hid (∀ n : Nat, pj a b b[k] = n → ∀ i, i < b.length → (if i = k then Value.int .i64 (n : Int) else jf a b k i) = jf a b (k + 1) i) := Lib.hid fun n hn i hi => by
            unfold jf
            by_cases e : i = k
            · subst e
              rw [if_pos rfl, if_pos (by omega), HG.out, hn]
            · rw [if_neg e]
              by_cases h : i < k
              · rw [if_pos h, if_pos (by omega)]
              · rw [if_neg h, if_neg (by omega)]
          clear hc hv hRk hRf
          cases hp : pm 0 a b[k] with
          | some n =>
            have hlk := look_some hM.out hsl hp
            have HN := Lib.hid (HJK.out n (pj_old hp))
            have HJ1 := Lib.hid (HJ.out.trans (if_pos (mem_of_pm hp)))
            have c2 := hR.out.cell hlt
            have f2 := hR.out.frozen k
            clear hp HJ HJK
            unfold jf at c2
            rw [if_neg (Nat.lt_irrefl k)] at c2
            generalize b[k] = s at *
            go_wp2_with fail
            go_roundw
            case rel =>
              refine ⟨k + 1, by omega, by go_num, Lib.hid ?_, Lib.hid ((hR.out.set k _).congr HN.out), Lib.hid (hM.out.set hR.out k _), Lib.hid (hF.out.setCell hP.out _ _)⟩
              rw [HJ1.out]
              exact own_set hO.out hR.out (by decide) k _
            case measure => simp [intOf]; omega
          | none =>
            have hlk := look_none hM.out hsl hp
            have hnm : b[k] ∉ a := pm_none.1 hp
            have HN := Lib.hid (HJK.out _ (pj_new HRB.out.1 hlt hnm))
            have HJ1 := Lib.hid (HJ.out.trans (if_neg hnm))
            clear hp HJ HJK hnm
            generalize b[k] = s at *
            go_wp2_with (at_builtin; refine wpList_append_own _ rfl _ _ 22 rfl _ 9 i0 (.string (S [])) 1 16 Try.underlying22 hi hz0 hz1 hz2 rfl (by decide) _ _ _ rfl (hO.out.alloc _) ⟨wr.heap.size, 0, none⟩ 1 1 [.string (S s)] rfl rfl ?c1 ?c2 ?c3 ?c4 ?c5 ?_)
            case c1 =>
              intro j u hj
              match j, hj with
              | 0, hj => simp at hj; subst hj; simp [Addr.add]
            case c2 => intro u hu; simp at hu; subst hu; rfl
            case c3 => unfold maxLen; omega
            case c4 => omega
            case c5 =>
              have := hF.out.size
              simp; omega
            intro v2 w4 hown4 hgrow _
            have hF4 := (hF.out.trans (Fr.alloc wr (.cells #[.string (S s)] 9))).grown hgrow (fun k hk => (hO.out.lt k hk).1)
            have hR4 := own_row (hO.out.alloc (.cells #[.string (S s)] 9)) (hR.out.alloc _) (by decide) hgrow
            have hM4 := (hM.out.fr (Fr.alloc wr (.cells #[.string (S s)] 9))).own (hO.out.alloc _) hgrow
            have HF4 := Lib.hid hF4
            have HR4 := Lib.hid hR4
            have HM4 := Lib.hid hM4
            have HO4 := Lib.hid hown4
            have c2 := hR4.cell hlt
            have f2 := hR4.frozen k
            clear hgrow hF4 hR4 hM4 hown4 hlk
            unfold jf at c2
            rw [if_neg (Nat.lt_irrefl k)] at c2
            go_wp2_with fail
            go_roundw
            case rel =>
              refine ⟨k + 1, by omega, by go_num, Lib.hid ?_, Lib.hid ((HR4.out.set k _).congr HN.out), Lib.hid (HM4.out.set HR4.out k _), Lib.hid (HF4.out.setCell hP.out _ _)⟩
              rw [HJ1.out, strs_app, List.length_append]
              exact own_set HO4.out HR4.out (by decide) k _
            case measure => simp [intOf]; omega
      · obtain rfl : k = b.length := by omega
        have htk : b.take b.length = b := List.take_length
        rw [htk] at hO
        rw [htk] at hjl
        have HT : Hid (tot (joinL a b) ≤ 1099511627776 + 1099511627776) := Lib.hid (by
          unfold joinL
          rw [tot_append]
          have h1 := tot_filter (fun s => decide (s ∉ a)) b
          have h2 := HA.out.2
          have h3 := HB.out.2
          omega)
        clear htk
        have HSJ := Lib.hid (Sl.own hO.out)
        by_cases hbig : tot (joinL a b) ≤ 1048576
        · go_wp2_with (go_at_call 26; refine (size_any _ (joinL a b) _ HSJ.out (by omega) (by have := HT.out; omega)).mono ?_; rintro e w5 ⟨rfl, rfl⟩)
          go_ret3
          iterate 3 (try rw [if_pos hbig])
          refine ⟨_, _, rfl, HSJ.out, ?_, hF.out⟩
          refine .inr ⟨P, 0, b.length, by simp, fun i hi => ?_⟩
          rw [List.length_map] at hi
          rw [Nat.zero_add, hR.out.cell hi]
          simp [jf, hi]
        · go_wp2_with (go_at_call 26; refine (size_any _ (joinL a b) _ HSJ.out (by omega) (by have := HT.out; omega)).mono ?_; rintro e w5 ⟨rfl, rfl⟩)
          go_ret3
          iterate 3 (try rw [if_neg hbig])
          exact ⟨_, _, rfl, .nil _ _ _, .nil _ _ _, hF.out⟩

/-- What Join returns: a list, prints, an error. -/
def joinO (a b : List Txt) : List Txt × List Int × Int :=
  if Rt a ∧ Rt b then (if tot (joinL a b) ≤ 1048576 then (joinL a b, b.map (fun s => (pj a b s : Int)), 0) else ([], [], 6)) else ([], [], 1)
theorem join_any {v u : Value} {a b : List Txt} (w : World) (h : Sl w v a) (ha : Ok a) (h' : Sl w u b) (hb : Ok b) :
    Calls Try.prog 13 #[v, u] w fun e w' => ∃ v' u', e = .returned (.tuple #[v', u', .int .i64 (joinO a b).2.2]) ∧ Sl w' v' (joinO a b).1 ∧ Il w' u' (joinO a b).2.1 ∧ Fr w w' := by
  obtain ⟨ad, c, rfl⟩ := h'.len
  unfold joinO
  by_cases hr : Rt a
  · by_cases hr' : Rt b
    · rw [if_pos ⟨hr, hr'⟩]
      refine (join_good w h ha hr h' hb hr').mono fun e w' ⟨v', u', he, h1, h2, h3⟩ => ?_
      by_cases hs : tot (joinL a b) ≤ 1048576
      · rw [if_pos hs] at he h1 h2 ⊢
        exact ⟨v', u', he, h1, h2, h3⟩
      · rw [if_neg hs] at he h1 h2 ⊢
        exact ⟨v', u', he, h1, h2, h3⟩
    · rw [if_neg (fun h => hr' h.2)]
      exact (join_bad2 w h ha hr h' hb hr').mono fun e w' ⟨he, hf⟩ => ⟨_, _, he, .nil _ _ _, .nil _ _ _, hf⟩
  · rw [if_neg (fun h => hr h.1)]
    exact (join_bad1 w h ha hr).mono fun e w' ⟨he, hf⟩ => ⟨_, _, he, .nil _ _ _, .nil _ _ _, hf⟩
end Go.Proofs.Ythibdppjhfhomaa
