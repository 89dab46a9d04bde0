/-
  View: the law's signed.
-/
import Derived.Test.YtapdabebiinnnaaVn
import Derived.Deep.RegionHeldLaw
import Derived.Deep.AppendSrc
namespace Go.Proofs.Ytapdabebiinnnaa
open Go.RowKit Go.MapKept Go.Maps Go.WideMaps

/-- The signatures of the first Says, changed, and what the ring holds then. -/
noncomputable def sl (l : List Sy) : List Sg := l.map fun x => tn (zz (l.map sdOf) (sdOf x)) x.2.2.2
noncomputable def slk (l : List Sy) (k : Nat) : List Sg := (l.take k).map fun x => tn (zz (l.map sdOf) (sdOf x)) x.2.2.2
noncomputable def qs (l : List Sy) : List Sd := SL (l.map sdOf)
noncomputable def qk (l : List Sy) (k : Nat) : List Sd := SL ((l.map sdOf).take k)
theorem slk_len (l : List Sy) (k : Nat) (hk : k ≤ l.length) : (slk l k).length = k := by unfold slk; rw [List.length_map, List.length_take]; omega
theorem slk_all (l : List Sy) : slk l l.length = sl l := by unfold slk sl; rw [List.take_length]
theorem qk_all (l : List Sy) : qk l l.length = qs l := by unfold qk qs; rw [List.take_of_length_le (by simp)]
theorem slk_succ {l : List Sy} {k : Nat} (hk : k < l.length) : slk l (k + 1) = slk l k ++ [tn (signR (qk l k) (sdOf l[k])) l[k].2.2.2] := by
  unfold slk qk
  rw [List.take_succ_eq_append_getElem hk, List.map_append]
  have h := zz_now (l := l.map sdOf) (k := k) (by simpa using hk)
  rw [List.getElem_map] at h
  rw [h]; rfl
theorem qk_succ {l : List Sy} {k : Nat} (hk : k < l.length) : qk l (k + 1) = signL (qk l k) (sdOf l[k]) := by
  unfold qk
  rw [SL_take _ _ (by simpa using hk), List.getElem_map]
theorem qk_len (l : List Sy) (k : Nat) : (qk l k).length ≤ l.length := by have := SL_len_take (l.map sdOf) k; rw [List.length_map] at this; exact this
theorem signR_bounds (q : List Sd) (e : Sd) (hq : q.length ≤ 1000000) (he : e.2.length ≤ 1000000) : (0 ≤ (signR q e).1 ∧ (signR q e).1 ≤ 1000000000) ∧ (signR q e).2.1.length ≤ 1000000000 ∧ (0 ≤ (signR q e).2.2 ∧ (signR q e).2.2 ≤ 1000000000) := by
  unfold signR
  split
  · rename_i h
    have h1 := h.1
    have h2 := h.2
    have h3 := addN_le q e
    simp only
    omega
  · simp
set_option maxHeartbeats 4000000 in
set_option maxRecDepth 100000 in
theorem signed_any {W w : World} {R : Nat} {U : Thing} (v : Value) (l : List Sy) (h : Has W w ((RingT R []).sep U)) (hs : SySl W v l) (ha : SArg l) (hf : FewY l) :
    Calls Try.prog 8 #[.pointer (some ⟨R, 0, none⟩), v] w fun e w' => ∃ a c, e = .returned (.slice a (sl l).length c) ∧ Has W w' ((RowT 41 3 (.slice a (sl l).length c) (sl l).length (sgC (sl l))).sep ((RingT R (qs l)).sep U)) := by
  obtain ⟨i0, hi, hz0, hz1, hz2⟩ := info_parts infoSg
  have HIN := Lib.hid hi
  have H0 := Lib.hid ((h.nilRow 41 3))
  have HS := Lib.hid hs
  have HA := Lib.hid ha
  have HF := Lib.hid hf
  have hll := hf.1
  obtain ⟨a, c, rfl⟩ := hs.len
  have HE : Hid (slk l l.length = sl l ∧ qk l l.length = qs l) := Lib.hid ⟨slk_all l, qk_all l⟩
  generalize sl l = L at *
  generalize qs l = Q at *
  clear h hs ha hf hi
  go_enter Try.func8, Try.ntmps8
  go_wp2_with fail
  go_loopw [5, 6] (fun mv i wr => ∃ (k : Nat) (a0 : Option Addr) (c0 : Nat), k ≤ l.length ∧ i = .int .i64 k ∧ mv = .slice a0 k c0 ∧ Hid (Has W wr ((RowT 41 3 (.slice a0 k c0) k (sgC (slk l k))).sep ((RingT R (qk l k)).sep U)))) (fun _ i _ => l.length - (intOf i).toNat)
  case atStart => exact ⟨0, none, 0, Nat.zero_le _, by go_num, rfl, H0⟩
  case round =>
    obtain ⟨k, a0, c0, hk, rfl, rfl, HR⟩ := hrel
    clear H0
    by_cases hlt : k < l.length
    · obtain ⟨b, o, c', hv, hc⟩ := HS.out.get (by omega)
      obtain ⟨rfl, rfl⟩ : a = some ⟨b, o, none⟩ ∧ c = c' := by simpa using hv
      have HC := Lib.hid (hc k hlt)
      have HX := Lib.hid (HA.out.2 _ (List.getElem_mem hlt))
      have HWL := Lib.hid (wo_len (HF.out.2 _ (List.getElem_mem hlt)).1)
      have HSL := Lib.hid (slk_succ hlt)
      have HQS := Lib.hid (qk_succ hlt)
      have HQL := Lib.hid (show (qk l k).length ≤ 1000000 by have := qk_len l k; omega)
      clear hc hv
      unfold sdOf at HSL HQS
      generalize l[k] = x at *
      have HWO := Lib.hid (fun w' => words_any x w' HX.out)
      unfold syV at HWO
      generalize wo x = t at *
      obtain ⟨y, ⟨ck, cn, ct, cs⟩, raw, odd⟩ := x
      simp only at HSL HQS HWO
      obtain ⟨r, hr⟩ : ∃ r, r = signR (qk l k) (y, t) := ⟨_, rfl⟩
      obtain ⟨hb1, hb2, hb3⟩ := signR_bounds (qk l k) (y, t) HQL.out (by have := HWL.out; show t.length ≤ 1000000; omega)
      rw [← hr] at hb1 hb2 hb3 HSL
      have HRr := Lib.hid hr
      have HTN := Lib.hid (fun w' => turned_any r odd w' hb1 hb2 hb3)
      clear hr hb1 hb2 hb3 HX
      generalize tn r odd = z at *
      have HK : Hid (∀ w', Fr W w' → w'.cell? ⟨b, o + k * 7, none⟩ = some (.int .i64 y) ∧ w'.cell? ⟨b, o + k * 7 + 1, none⟩ = some (.int .i64 ck) ∧ w'.cell? ⟨b, o + k * 7 + 2, none⟩ = some (.int .i64 cn) ∧ w'.cell? ⟨b, o + k * 7 + 3, none⟩ = some (.int .i64 ct) ∧ w'.cell? ⟨b, o + k * 7 + 4, none⟩ = some (.string (S cs)) ∧ w'.cell? ⟨b, o + k * 7 + 5, none⟩ = some (.string (S raw)) ∧ w'.cell? ⟨b, o + k * 7 + 6, none⟩ = some (.int .i64 odd)) := Lib.hid fun w' hf => ⟨hf.cell HC.out.c0, hf.cell HC.out.c1, hf.cell HC.out.c2, hf.cell HC.out.c3, hf.cell HC.out.c4, hf.cell HC.out.c5, hf.cell HC.out.c6⟩
      have HKD := Lib.hid (HK.out _ (HR.out.toFr.trans (Fr.drew wr)))
      clear HC
      obtain ⟨zk, zt, zm⟩ := z
      unfold sgV at HTN
      have HSC := Lib.hid (show sgC (slk l (k + 1)) = sgC (slk l k) ++ [.int .i64 zk, .string (S zt), .int .i64 zm] from by rw [HSL.out, sgC_append]; simp [sgC])
      generalize sgC (slk l k) = xs at *
      have hkb : (k + 1) * 32 ≤ 140737488355328 := by omega
      have HR0 := Lib.hid (HR.out.fr (Fr.drew wr))
      clear HR HSL
      go_upto_region 5 with fail
      go_region_held_law (fun w' => w'.cell? ⟨b, o + k * 7, none⟩ = some (.int .i64 y) ∧ w'.cell? ⟨b, o + k * 7 + 1, none⟩ = some (.int .i64 ck) ∧ w'.cell? ⟨b, o + k * 7 + 2, none⟩ = some (.int .i64 cn) ∧ w'.cell? ⟨b, o + k * 7 + 3, none⟩ = some (.int .i64 ct) ∧ w'.cell? ⟨b, o + k * 7 + 4, none⟩ = some (.string (S cs)) ∧ w'.cell? ⟨b, o + k * 7 + 5, none⟩ = some (.string (S raw)) ∧ w'.cell? ⟨b, o + k * 7 + 6, none⟩ = some (.int .i64 odd))
        (first | exact HK4.out | exact HK3b.out | exact HK2.out | exact HK1.out | exact HKD.out)
        (first
          | ((refine step_append_lies _ (by rfl) (.tmp 13) (.tmp 32) 29 (by rfl) 0 41 i0 (.agg #[.int .i64 0, .string (S []), .int .i64 0]) 3 32 Try.underlying29 HIN.out hz0 hz1 hz2 rfl (by decide) (.slice a0 k c0) k xs (by rfl) HR3b.out.row ⟨w3.heap.size, 0, none⟩ 1 1 [.int .i64 zk, .string (S zt), .int .i64 zm] (by rfl) (by rfl) (World.news_of_block (cs := #[.int .i64 zk, .string (S zt), .int .i64 zm]) (t := 41) (fr := (0, 0)) (heap_alloc_new w3 _)) (by simp [Value.oneCell']) (by decide) (by unfold maxLen; omega) hkb (Nat.zero_le _) (w3.heap.size + 1) (by simp) ?_
              intro gg cap1 w4 hown1 hgrow hat1 hlt1
              have HR4 : Hid (Has W w4 ((RowT 41 3 (.slice (some ⟨gg, 0, none⟩) (k + 1) cap1) (k + 1) (sgC (slk l (k + 1)))).sep ((RingT R (qk l (k + 1))).sep U))) := Lib.hid (by
                 rw [HSC.out]
                 refine HR3b.out.app hown1 hgrow (fun p hp => ?_)
                 simp only [Value.ownBlock, Option.some.injEq] at hp
                 subst hp
                 rcases hat1 with h1 | h1
                 · exact .inl h1
                 · exact .inr (by rw [h1]; simp))
              have HK4 := Lib.hid (HK.out _ HR4.out.toFr)
              clear hown1 hgrow hat1 hlt1))
          | (go_at_call 19; refine (HTN.out _).mono ?_; rintro e w3 ⟨rfl, hf3⟩; have HR3 := Lib.hid (HR2.out.fr hf3); have HR3b := Lib.hid (HR3.out.fr (Fr.alloc w3 (.cells #[.int .i64 zk, .string (S zt), .int .i64 zm] 41))); have HK2 := Lib.hid (HK.out _ HR3.out.toFr); have HK3b := Lib.hid (HK.out _ HR3b.out.toFr); clear hf3)
          | (go_at_call 16; refine (HR1.out.turn.sign y t (by have := HWL.out; unfold maxLen; omega) HQL.out).mono ?_; rw [← HRr.out, ← HQS.out]; unfold sgV; rintro e w2 ⟨rfl, h2⟩; have HR2 := Lib.hid h2.turn; have HK2 := Lib.hid (HK.out _ HR2.out.toFr); clear h2)
          | (go_at_call 20; refine (HWO.out _).mono ?_; rintro e w1 ⟨rfl, hf1⟩; have HR1 := Lib.hid (HR0.out.fr hf1); have HK1 := Lib.hid (HK.out _ HR1.out.toFr); clear hf1))
      all_goals
        go_wp2_with fail
        go_roundw
        case rel => exact ⟨k + 1, some ⟨gg, 0, none⟩, cap1, by omega, by go_num, rfl, HR4⟩
        case measure => simp [intOf]; omega
    · obtain rfl : k = l.length := by omega
      rw [HE.out.1, HE.out.2] at HR
      have hl : L.length = l.length := by rw [← HE.out.1, slk_len l l.length (Nat.le_refl _)]
      rw [← hl] at HR
      go_wp2_with fail
      go_ret
      exact ⟨a0, c0, by rw [hl]; rfl, HR.out⟩
end Go.Proofs.Ytapdabebiinnnaa
