/-
  Chain, Walk.
-/
import Derived.Test.YtddeblcoglhdnaaKl
namespace Go.Proofs.Ytddeblcoglhdnaa
open Go.RowKit Mb Go.BigFrame

theorem infoInt : (Try.prog.info? 3).map (fun i => (i.zero, i.size, i.bytes)) = some (some (.int .i64 0), 1, 8) := by kernel_rfl
theorem Fr.growO {w x y : World} {row : Option Nat} (h : Fr w x) (hg : x.grownBy y row) (hr : ∀ k, row = some k → w.heap.size ≤ k) : Fr w y :=
  World.grownBy.andThen h hg (fun j hj => .inl (hr j hj))
/-- The chain's indices as ints. -/
def chI (l : List Ft) (n : Txt) (k : Nat) : List Int := (chN l n k).map fun i : Nat => (i : Int)
theorem chI_succ {l : List Ft} {n : Txt} {k : Nat} (h : k < l.length) : chI l n (k + 1) = if isO l[k] n = true then chI l n k ++ [(k : Int)] else chI l n k := by
  unfold chI
  rw [chN_succ h]
  split <;> simp
theorem chI_len (l : List Ft) (n : Txt) (k : Nat) : (chI l n k).length ≤ k := by unfold chI; rw [List.length_map]; exact chN_len l n k
def ChP (l : List Ft) (n : Txt) (w : World) (e : Ending) (w' : World) : Prop := ∃ v, e = .returned v ∧ Sl w' v (chn l n) ∧ Fr w w'
set_option maxRecDepth 100000 in
set_option maxHeartbeats 2000000 in
theorem chain_any (v : Value) (l : List Ft) (n : Txt) (w : World) (h : FSl w v l) (hl : l.length ≤ 1000000) :
    Calls Try.prog 19 #[v, .string (S n)] w (ChP l n w) := by
  obtain ⟨i0, hi, hz0, hz1, hz2⟩ := info_parts infoInt
  have HIN := Lib.hid hi
  obtain ⟨av, ac, rfl⟩ := h.len
  have HV := Lib.hid h
  clear h hi
  go_enter Try.func19, Try.ntmps19
  go_wp2_with fail
  go_loopw [10, 5] (fun vi u5 wr => ∃ (k m : Nat), k ≤ l.length ∧ vi = .int .i64 k ∧ m ≤ k ∧ Hid (wr.ownsRow w.heap.size 3 1 u5 m (ints (chI l n k))) ∧ Hid (Fr w wr)) (fun vi _ _ => l.length - (intOf vi).toNat)
  case atStart => exact ⟨0, 0, Nat.zero_le _, rfl, Nat.le_refl _, Lib.hid (World.ownsRow_nil _ _ _ _), Lib.hid (Fr.refl _)⟩
  case round =>
    obtain ⟨k, m, hk, rfl, hmk, hO, hF⟩ := hrel
    by_cases hlt : k < l.length
    · obtain ⟨g, o, rfl, hat0⟩ := HV.out.at k hlt
      have hat := hat0.fr hF.out
      have c0 := hat.kind
      have c1 := hat.name
      have hst := chI_succ (n := n) hlt
      have hml := hO.out.1
      by_cases hK : l[k].kind = 5 ∨ l[k].kind = 4
      · by_cases hN : l[k].name = n
        · have hN' : (l[k].name == n) = true := by simpa using hN
          have hi' : isO l[k] n = true := by
            unfold isO; rw [hN', Bool.and_true]; rcases hK with h | h <;> simp [h]
          rw [if_pos hi'] at hst
          have HST := Lib.hid hst
          clear hst hi' hN hat hat0 HV
          generalize l[k].name = z at *
          generalize l[k].kind = kd at *
          rcases hK with rfl | rfl
          all_goals
            go_wp2_with (at_builtin; refine wpList_append_own _ rfl (.tmp 33) (.tmp 35) 23 rfl w.heap.size 3 i0 (.int .i64 0) 1 8 Try.underlying23 HIN.out hz0 hz1 hz2 rfl (by decide) _ _ _ rfl (hO.out.alloc _) ⟨wr.heap.size, 0, none⟩ 1 1 [.int .i64 (k : Int)] rfl rfl (World.news_of_block (cs := #[.int .i64 (k : Int)]) (t := 3) (fr := (0, 0)) (heap_alloc_new wr _)) (by simp [Value.oneCell']) (by unfold maxLen; omega) (by omega) (by have := hF.out.size; simp; omega) ?_; intro v3 w3 hown3 hgrow3 _)
            have HO3 := Lib.hid (show w3.ownsRow w.heap.size 3 1 v3 (m + 1) (ints (chI l n (k + 1))) by rw [HST.out, ints_app]; exact hown3)
            have HF3 := Lib.hid (Fr.growO (hF.out.trans (Fr.alloc wr _)) hgrow3 (fun k hk => (hO.out.lt k hk).1))
            clear hown3 hgrow3
            go_roundw
            case rel => exact ⟨k + 1, m + 1, by omega, by go_num, by omega, HO3, HF3⟩
            case measure => simp [intOf]; omega
        · have hN' : (l[k].name == n) = false := by simpa using hN
          have hi' : ¬ isO l[k] n = true := by
            unfold isO; rw [hN', Bool.and_false]; decide
          rw [if_neg hi'] at hst
          have HO3 := Lib.hid (show wr.ownsRow w.heap.size 3 1 u5 m (ints (chI l n (k + 1))) by rw [hst]; exact hO.out)
          clear hst hi' hN hat hat0 HV
          generalize l[k].name = z at *
          generalize l[k].kind = kd at *
          rcases hK with rfl | rfl
          all_goals
            go_wp2_with fail
            go_roundw
            case rel => exact ⟨k + 1, m, by omega, by go_num, by omega, HO3, hF⟩
            case measure => simp [intOf]; omega
      · have e5 : (l[k].kind == 5) = false := by simp; omega
        have e4 : (l[k].kind == 4) = false := by simp; omega
        have hi' : ¬ isO l[k] n = true := by
          unfold isO
          rw [decide_eq_false (fun h => hK (.inl h)), decide_eq_false (fun h => hK (.inr h))]
          simp
        rw [if_neg hi'] at hst
        have HO3 := Lib.hid (show wr.ownsRow w.heap.size 3 1 u5 m (ints (chI l n (k + 1))) by rw [hst]; exact hO.out)
        clear hst hi' hK hat hat0 HV
        generalize l[k].name = z at *
        generalize l[k].kind = kd at *
        go_wp2_with fail
        go_roundw
        case rel => exact ⟨k + 1, m, by omega, by go_num, by omega, HO3, hF⟩
        case measure => simp [intOf]; omega
    · have hkl : k = l.length := by omega
      have HS := Lib.hid (show Sl wr u5 (chn l n) from Sl.own (l := chn l n) (by have := hO.out; rw [hkl] at this; exact this))
      clear hO
      go_wp2_with fail
      go_ret
      exact ⟨_, rfl, HS.out, hF.out⟩
end Go.Proofs.Ytddeblcoglhdnaa
