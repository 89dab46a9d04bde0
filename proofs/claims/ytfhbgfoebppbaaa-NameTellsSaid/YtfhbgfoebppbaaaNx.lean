/-
  The reference: Drop, Same.
-/
import Derived.Test.YtfhbgfoebppbaaaNw
namespace Go.Proofs.Ytfhbgfoebppbaaa
open Go.RowKit

theorem hl_cells {w : World} {ad : Addr} {n c : Nat} {l : List Hd} (h : Hl w (.slice (some ad) n c) l) : ∀ j u, (hdC l)[j]? = some u → w.cell? (ad.add j) = some u := by
  rcases h with ⟨rfl, _⟩ | ⟨b, o, c', hv, hc⟩
  · intro j u hu; simp [hdC] at hu
  · cases hv
    exact hc.cells
set_option maxHeartbeats 4000000 in
set_option maxRecDepth 100000 in
theorem rdrop_any (v : Value) (l : List Hd) (s : Txt) (u : Int) (w : World) (h : Hl w v l) (hl : HOk l) (hz : ∀ k c, v = .slice none k c → k = 0 ∧ c = 0) (hs : s.length ≤ 1099511627776) (hu1 : -9223372036854775808 ≤ u) (hu2 : u ≤ 9223372036854775807) :
    Calls Try.prog 14 #[v, .string (S s), .int .i64 u] w (DropP l s u w) := by
  have k1 := rright_any s w hs
  have HH := Lib.hid h
  obtain ⟨va, vc, hvv⟩ := h.len
  by_cases a1 : okN s = false
  · have hd : drE s u = 12 := by unfold drE; rw [if_pos a1]
    have hp := drp_no (l := l) (s := s) (u := u) (by omega)
    rw [a1] at k1
    have K1 := Lib.hid k1
    clear k1 h
    unfold DropP
    rw [hd, hp]
    subst hvv
    go_enter Try.func14, Try.ntmps14
    go_wp2_with (go_at_call 17; refine (K1.out).mono ?_; rintro e w' ⟨rfl, rfl⟩)
    go_ret2
    exact ⟨_, rfl, Hl.nil _ _ _, Fr.refl _⟩
  have a1' : okN s = true := by simpa using a1
  rw [a1'] at k1
  have K1 := Lib.hid k1
  clear k1
  by_cases a2 : u < 0
  · have hd : drE s u = 1 := by unfold drE; rw [if_neg a1, if_pos (.inl a2)]
    have hp := drp_no (l := l) (s := s) (u := u) (by omega)
    have b2 : decide (u < 0) = true := decide_eq_true a2
    unfold DropP
    rw [hd, hp]
    subst hvv
    clear h
    go_enter Try.func14, Try.ntmps14
    go_wp2_with (go_at_call 17; refine (K1.out).mono ?_; rintro e w' ⟨rfl, rfl⟩)
    go_ret2
    exact ⟨_, rfl, Hl.nil _ _ _, Fr.refl _⟩
  have b2 : decide (u < 0) = false := decide_eq_false a2
  by_cases a3 : 1073741824 < u
  · have hd : drE s u = 1 := by unfold drE; rw [if_neg a1, if_pos (.inr a3)]
    have hp := drp_no (l := l) (s := s) (u := u) (by omega)
    have b3 : decide (1073741824 < u) = true := decide_eq_true a3
    unfold DropP
    rw [hd, hp]
    subst hvv
    clear h
    go_enter Try.func14, Try.ntmps14
    go_wp2_with (go_at_call 17; refine (K1.out).mono ?_; rintro e w' ⟨rfl, rfl⟩)
    go_ret2
    exact ⟨_, rfl, Hl.nil _ _ _, Fr.refl _⟩
  have b3 : decide (1073741824 < u) = false := decide_eq_false a3
  have hd : drE s u = 0 := by unfold drE; rw [if_neg a1, if_neg (by omega)]
  have hp := drp_yes (l := l) (s := s) (u := u) hd
  unfold DropP
  rw [hd, hp]
  obtain ⟨i0, hi, hz0, hz1, hz2⟩ := info_parts infoHd
  have HIN := Lib.hid hi
  have hb := hl.len
  clear hd hp hi a2 a3 a1 a1' hl h
  have hvz := hz
  subst hvv
  go_enter Try.func14, Try.ntmps14
  go_upto_region 5 with (go_at_call 17; refine (K1.out).mono ?_; rintro e w' ⟨rfl, rfl⟩)
  have HOl : Hid ((w'.alloc (.cells #[] 43)).ownsRow w'.heap.size 43 2 (.slice (some ⟨w'.heap.size, 0, none⟩) 0 0) 0 []) := Lib.hid (World.ownsRow_lit (base := w'.heap.size) (e := 43) (size := 2) w' #[] 0 (Nat.le_refl _) (Nat.zero_le _) rfl)
  go_cut [8] (fun v8 wx => Hid (wx.ownsRow w'.heap.size 43 2 v8 l.length (hdC l)) ∧ Hid (Fr w' wx))
  case first =>
    cases va with
    | none =>
      obtain ⟨h0, h1⟩ := hvz _ _ rfl
      have hl0 : l = [] := List.length_eq_zero_iff.1 h0
      subst hl0 h1
      clear hz hvz
      go_wp2_with (at_builtin; refine wpList_append_own_none rfl (.tmp 19) (.tmp 20) 23 rfl w'.heap.size 43 i0 2 Try.underlying23 HIN.out _ 0 [] rfl HOl.out rfl ?_)
      go_meet
      exact ⟨Lib.hid HOl.out, Lib.hid (Fr.alloc _ _)⟩
    | some ad =>
      have HC := Lib.hid (hl_cells (HH.out.fr (Fr.alloc w' (.cells #[] 43))))
      clear hz hvz
      go_wp2_with (at_builtin; refine wpList_append_own _ rfl (.tmp 19) (.tmp 20) 23 rfl w'.heap.size 43 i0 (.agg #[.string (S []), .int .i64 0]) 2 24 Try.underlying23 HIN.out hz0 hz1 hz2 rfl (by decide) _ _ _ rfl HOl.out ad l.length vc (hdC l) rfl (hdC_length l) HC.out (hdC_one l) (by unfold maxLen; omega) (by omega) (by simp) ?_; intro v1 w1 hown1 hgrow1 _)
      have hg : w1.ownsRow w'.heap.size 43 2 v1 l.length (hdC l) := by
        have := hown1
        rw [Nat.zero_add, List.nil_append] at this
        exact this
      have hf : Fr w' w1 := Fr.growO (Fr.alloc w' _) hgrow1 (fun k hk => (HOl.out.lt k hk).1)
      go_meet
      exact ⟨Lib.hid hg, Lib.hid hf⟩
  case rest =>
    obtain ⟨HO, HF⟩ := hcut
    obtain ⟨ra, rc, hr8⟩ := row_form HO.out
    subst hr8
    clear hz hvz HOl
    go_wp2_with fail
    go_loopw [9] (fun n wr => ∃ k : Nat, k ≤ l.length ∧ n = .int .i64 k ∧ Hid (∀ (j : Nat) (hj : j < l.length), j < k → l[j].1 ≠ s) ∧ wr = wc) (fun n _ => l.length - (intOf n).toNat)
    case atStart => exact ⟨0, Nat.zero_le _, rfl, Lib.hid (fun j hj h => by omega), rfl⟩
    case round =>
      obtain ⟨k, hk, rfl, hI, rfl⟩ := hrel
      by_cases hlt : k < l.length
      · obtain ⟨g, cap, cur, hv, hB, hg, hat⟩ := row_at HO.out rfl (by omega)
        cases hv
        have c1 := (hat k hlt).1
        have c2 := (hat k hlt).2
        rw [Nat.zero_add] at c1 c2
        have f1 := frozenOf hg (k * 2 + 1)
        have HUP := Lib.hid (fun e : l[k].1 = s => upd_at (h := l) u k hlt e (fun j hj => hI.out j (by omega) hj))
        have HST := Lib.hid (fun m : Int => HAt.set hg hat k hlt m)
        have HN := Lib.hid (fun (e : l[k].1 ≠ s) => show ∀ (j : Nat) (hj : j < l.length), j < k + 1 → l[j].1 ≠ s from fun j hj hjk => by
          rcases Nat.lt_or_ge j k with h1 | h1
          · exact hI.out j hj h1
          · obtain rfl : j = k := by omega
            exact e)
        have HBB := Lib.hid hB
        clear hg hat hB hI
        generalize l[k] = x at *
        obtain ⟨x, q⟩ := x
        simp only at c1 c2 HUP HST HN
        by_cases hx : x = s
        · have e1 : (x == s) = true := by simpa using hx
          have HU := Lib.hid (HUP.out hx)
          have HS2 := Lib.hid (HST.out (max q u))
          have HX := Lib.hid hx
          clear hx
          go_wp2_with fail
          go_ret2
          refine ⟨_, rfl, ?_, Fr.set HF.out HBB.out _ _⟩
          rw [HU.out]
          refine .inr ⟨g, 0, rc, ?_, ?_⟩
          · rw [List.length_set]; rfl
          · rw [← HX.out]; exact HS2.out
        · have e1 : (x == s) = false := by simpa using hx
          have HN2 := Lib.hid (HN.out hx)
          go_wp2_with fail
          go_roundw
          case rel => exact ⟨k + 1, by omega, by go_num, HN2, trivial⟩
          case measure => simp [intOf]; omega
      · obtain rfl : k = l.length := by omega
        have hup : upd l s u = l ++ [(s, u)] := upd_none u (fun x hx => by
          obtain ⟨j, hj, rfl⟩ := List.getElem_of_mem hx
          exact hI.out j hj hj)
        have HUP := Lib.hid hup
        clear hup hI
        go_wp2_with (at_builtin; refine wpList_append_own _ rfl (.tmp 47) (.tmp 51) 23 rfl w'.heap.size 43 i0 (.agg #[.string (S []), .int .i64 0]) 2 24 Try.underlying23 HIN.out hz0 hz1 hz2 rfl (by decide) _ _ _ rfl (HO.out.alloc _) ⟨wr.heap.size, 0, none⟩ 1 1 [.string (S s), .int .i64 u] rfl rfl (World.news_of_block (cs := #[.string (S s), .int .i64 u]) (t := 43) (fr := (0, 0)) (heap_alloc_new wr _)) (by simp [Value.oneCell']) (by unfold maxLen; omega) (by omega) (by have := HF.out.size; simp; omega) ?_; intro v3 w3 hown3 hgrow3 _)
        go_ret2
        refine ⟨v3, rfl, ?_, ?_⟩
        · rw [HUP.out]
          refine Hl.own (B := w'.heap.size) (n := l.length + 1) ?_ (by simp)
          rw [hdC_append]
          exact hown3
        · exact Fr.growO (HF.out.trans (Fr.alloc wr _)) hgrow3 (fun k hk => (HO.out.lt k hk).1)
end Go.Proofs.Ytfhbgfoebppbaaa
