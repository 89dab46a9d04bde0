/-
  Slices of slices of ints; Admit.
-/
import Derived.Test.YtddeblcoglhdnaaKp
namespace Go.Proofs.Ytddeblcoglhdnaa
open Go.RowKit Mb Go.BigFrame

/-- Slices of ints lie from place o of block b on. -/
def SsAt (w : World) (b o : Nat) (l : List (List Int)) : Prop := ∀ (i : Nat) (h : i < l.length), ∃ kv, w.cell? ⟨b, o + i, none⟩ = some kv ∧ Sl w kv l[i]
theorem SsAt.fr {w w' : World} {b o : Nat} {l : List (List Int)} (h : SsAt w b o l) (hf : Fr w w') : SsAt w' b o l := fun i hi => let ⟨kv, h1, h2⟩ := h i hi; ⟨kv, hf.cell h1, h2.fr hf⟩
/-- A slice of slices of ints. -/
def SsSl (w : World) (v : Value) (l : List (List Int)) : Prop := (l = [] ∧ ∃ a c, v = .slice a 0 c) ∨ ∃ b o c, v = .slice (some ⟨b, o, none⟩) l.length c ∧ SsAt w b o l ∧ l.length ≤ c
theorem SsSl.fr {w w' : World} {v : Value} {l : List (List Int)} (h : SsSl w v l) (hf : Fr w w') : SsSl w' v l := by
  rcases h with h | ⟨b, o, c, hv, hc, hl⟩
  · exact .inl h
  · exact .inr ⟨b, o, c, hv, hc.fr hf, hl⟩
theorem SsSl.len {w : World} {v : Value} {l : List (List Int)} (h : SsSl w v l) : ∃ a c, v = .slice a l.length c := by
  rcases h with ⟨rfl, a, c, rfl⟩ | ⟨b, o, c, rfl, _⟩
  · exact ⟨a, c, rfl⟩
  · exact ⟨_, _, rfl⟩
theorem SsSl.at {w : World} {av : Option Addr} {n c : Nat} {l : List (List Int)} (h : SsSl w (.slice av n c) l) (k : Nat) (hk : k < l.length) : ∃ g o kv, av = some ⟨g, o, none⟩ ∧ w.cell? ⟨g, o + k, none⟩ = some kv ∧ Sl w kv l[k] := by
  rcases h with ⟨rfl, _⟩ | ⟨g, o, c, hv, hc, _⟩
  · simp at hk
  · cases hv
    obtain ⟨kv, h1, h2⟩ := hc k hk
    exact ⟨g, o, kv, rfl, h1, h2⟩
structure SsB (l : List (List Int)) : Prop where
  len : l.length ≤ 1000000
  mem : ∀ q ∈ l, Ok q
theorem SsB.getD {l : List (List Int)} (h : SsB l) (k : Nat) : Ok (l.getD k []) := by
  rcases Nat.lt_or_ge k l.length with hk | hk
  · have : l.getD k [] = l[k] := by simp [List.getD, hk]
    rw [this]; exact h.mem _ (List.getElem_mem hk)
  · have : l.getD k [] = [] := by simp [List.getD, hk]
    rw [this]; exact Ok.nil

/-- The map of the standings after the first k facts. -/
def StM (W : World) (l : List Ft) (M k : Nat) (wr : World) : Prop := ∃ m n, Ms.MapIs wr M m n ∧ ∀ t, ∃ u v, (m t).getD (.agg #[.pointer none, .pointer none]) = .agg #[u, v] ∧ Pt W u (own (l.take k) t) ∧ Pt W v (dlg (l.take k) t)
theorem StM.fr {W : World} {l : List Ft} {M k : Nat} {a b : World} (h : StM W l M k a) (hf : Fr a b) : StM W l M k b := let ⟨m, n, h1, h2⟩ := h; ⟨m, n, h1.fr hf, h2⟩
theorem StM.new (W w : World) (l : List Ft) : StM W l w.heap.size 0 (w.alloc (.map #[] 0)) := ⟨_, _, Ms.MapIs.new w, fun _ => ⟨_, _, rfl, Pt.none _, Pt.none _⟩⟩
theorem StM.look {W : World} {l : List Ft} {M k : Nat} {w : World} (h : StM W l M k w) (t : Txt) (ht : t.length ≤ maxLen) :
    ∃ u v, (∀ w', Fr w w' → (Instr.lookup 67 (.map (some M)) (.string (S t)) false).run Try.prog w' = .ok (.agg #[u, v]) w') ∧ Pt W u (own (l.take k) t) ∧ Pt W v (dlg (l.take k) t) := by
  obtain ⟨m, n, h1, h2⟩ := h
  obtain ⟨u, v, h3, h4, h5⟩ := h2 t
  exact ⟨u, v, fun w' hw => by rw [(h1.fr hw).look1 t ht, h3], h4, h5⟩
theorem StM.put {W : World} {l : List Ft} {M k : Nat} {w : World} (h : StM W l M k w) (hk : k < l.length) (ht : (nm l[k]).length ≤ maxLen) (u v : Value)
    (hu : Pt W u (aft (own (l.take k) (nm l[k]), dlg (l.take k) (nm l[k])) l[k]).1) (hv : Pt W v (aft (own (l.take k) (nm l[k]), dlg (l.take k) (nm l[k])) l[k]).2) :
    ∃ w', (Instr.mapUpdate 67 (.map (some M)) (.string (S (nm l[k]))) (.agg #[u, v])).run Try.prog w = .ok () w' ∧ StM W l M (k + 1) w' ∧ OnlyB M w w' := by
  obtain ⟨m, n, h1, h2⟩ := h
  obtain ⟨w', hr, hm, ho⟩ := h1.store (m' := fun t => if t = nm l[k] then some (.agg #[u, v]) else m t) (n' := if m (nm l[k]) = none then n + 1 else n) (nm l[k]) ht (.agg #[u, v]) (fun _ => rfl) rfl
  refine ⟨w', hr, ⟨_, _, hm, fun t => ?_⟩, ho⟩
  by_cases e : t = nm l[k]
  · subst e
    rw [std_eq hk _ rfl] at hu hv
    exact ⟨u, v, by rw [if_pos rfl]; rfl, hu, hv⟩
  · obtain ⟨u1, v1, h3, h4, h5⟩ := h2 t
    obtain ⟨e1, e2⟩ := std_ne hk t (fun h => e h.symm)
    exact ⟨u1, v1, by rw [if_neg e]; exact h3, by rw [e1]; exact h4, by rw [e2]; exact h5⟩
theorem FB.ml {f : Ft} (h : FB f) : (nm f).length ≤ maxLen := by have := h.nlen; unfold maxLen; omega

set_option maxRecDepth 100000 in
set_option maxHeartbeats 4000000 in
theorem admit_any (v r s : Value) (l : List Ft) (reg : List Int) (sg : List (List Int)) (w : World) (h : FSl w v l) (hl : LB l) (hr : Sl w r reg) (hro : Ok reg) (hs : SsSl w s sg) (hsg : SsB sg) :
    Calls Try.prog 15 #[v, r, s] w fun e w' => e = .returned (.tuple #[.int .i64 ((ad l reg sg).1 : Nat), .int .i64 (ad l reg sg).2]) ∧ Fr w w' := by
  have HL := Lib.hid hl
  have HG := Lib.hid hsg
  have hn := hl.len
  have hm := hsg.len
  obtain ⟨av, ac, rfl⟩ := h.len
  have HV := Lib.hid h
  obtain ⟨sv, sc, rfl⟩ := hs.len
  have HSG := Lib.hid hs
  have HF0 := Lib.hid (Fr.alloc w (.map #[] 0))
  have HM0 := Lib.hid (StM.new w w l)
  have HT := Lib.hid (set_any r reg (w.alloc (.map #[] 0)) (hr.fr (Fr.alloc _ _)) hro)
  have hmm := @run_makeMap Try.prog
  have hsz : (w.alloc (.map #[] 0)).heap.size = w.heap.size + 1 := by simp
  clear h hl hr hro hs hsg
  unfold SetP at HT
  rw [hsz] at HT
  clear hsz
  go_enter Try.func15, Try.ntmps15
  go_upto_region 2 with fail
  clear hmm
  generalize (w.alloc (.map #[] 0)) = w0 at *
  go_wp2_with (go_at_call 29; refine HT.out.mono ?_; rintro e w1 ⟨M, rfl, hS, hM, hf⟩; have HS := Lib.hid hS; have HF1 := Lib.hid (HF0.out.trans hf); have HM1 := Lib.hid (HM0.out.fr hf); clear hS hf)
  go_loopw [20] (fun vi wr => ∃ k : Nat, k ≤ l.length ∧ vi = .int .i64 k ∧ Hid (ad l reg sg = adR l reg sg k (l.length - k)) ∧ Hid (StM w l w.heap.size k wr) ∧ Hid (SetIs wr M (fun t => decide (t ∈ reg))) ∧ Hid (Fr w wr)) (fun vi _ => l.length - (intOf vi).toNat)
  case atStart => exact ⟨0, Nat.zero_le _, rfl, Lib.hid rfl, HM1, HS, HF1⟩
  case round =>
    obtain ⟨k, hk, rfl, hE, hSM, hSet, hF⟩ := hrel
    by_cases hlt : k < l.length
    · obtain ⟨g, o, rfl, hat0⟩ := HV.out.at k hlt
      have hb := HL.out.get hlt
      have hat := hat0.fr hF.out
      obtain ⟨u, v, hlk, hu, hv⟩ := hSM.out.look (nm l[k]) hb.ml
      have HLK := Lib.hid hlk
      have HN := Lib.hid (nameOf_any g (o + k * 29) l[k] wr hat)
      have hE2 := hE.out
      rw [adR_succ hlt] at hE2
      have HMY := Lib.hid fun qv (hq : Sl wr qv (sg.getD k [])) => may_any u v qv _ _ k M reg g (o + k * 29) l[k] (sg.getD k []) wr (hu.fr hF.out) (hv.fr hF.out) hSet.out hat hb hq (HG.out.getD k)
      have hmy : myE (own (l.take k) (nm l[k])) (dlg (l.take k) (nm l[k])) k reg l[k] (sg.getD k []) = may (l.take k) reg l[k] (sg.getD k []) := by
        unfold may
        rw [List.length_take, Nat.min_eq_left hk]
      rw [hmy] at HMY
      have HAF := Lib.hid fun w' (hw : Fr wr w') => after_any u v _ _ g (o + k * 29) l[k] w w' hu hv hat0 hb (hF.out.trans hw)
      have HPUT := Lib.hid fun w' (hw : Fr wr w') u' v' hu' hv' => (hSM.out.fr hw).put hlt hb.ml u' v' hu' hv'
      unfold AftP at HAF
      clear hlk hu hv hat hat0 hmy
      by_cases hls : k < sg.length
      · obtain ⟨g2, o2, kv, rfl, ck', hkv⟩ := HSG.out.at k hls
        have ck := hF.out.cell ck'
        have HQ := Lib.hid (show Sl wr kv (sg.getD k []) by
          have : sg.getD k [] = sg[k] := by simp [List.getD, hls]
          rw [this]; exact hkv.fr hF.out)
        clear ck' hkv
        by_cases h0 : may (l.take k) reg l[k] (sg.getD k []) = 0
        · rw [if_pos h0] at hE2
          rw [h0] at HMY
          have HR := Lib.hid hE2
          have hl1 := HLK.out wr (Fr.refl _)
          clear hE2 hE h0
          go_wp2_with (first
            | (go_at_call 30; refine HN.out.mono ?_; rintro e w2 ⟨rfl, rfl⟩)
            | (go_at_call 31; refine (HMY.out _ HQ.out).mono ?_; rintro e w2 ⟨rfl, hf2⟩; have hl2 := HLK.out _ hf2; have HF2 := Lib.hid hf2; clear hf2)
            | (go_at_call 32; refine (HAF.out _ HF2.out).mono ?_; rintro e w3 ⟨u', v', rfl, hu', hv', hf3⟩; obtain ⟨w4, hup, hm4, ho4⟩ := HPUT.out _ (HF2.out.trans hf3) u' v' hu' hv'; have HM4 := Lib.hid hm4; have HF4 := Lib.hid ((hF.out.trans (HF2.out.trans hf3)).only ho4 (Nat.le_refl _)); have HS4 := Lib.hid ((hSet.out.fr (HF2.out.trans hf3)).heap (ho4.block (by omega))); clear hu' hv' hf3 hm4 ho4))
          go_roundw
          case rel => exact ⟨k + 1, by omega, by go_num, HR, HM4, HS4, HF4⟩
          case measure => simp [intOf]; omega
        · rw [if_neg h0] at hE2
          have h1 : (may (l.take k) reg l[k] (sg.getD k []) != 0) = true := by simpa using h0
          have HR := Lib.hid hE2
          have hl1 := HLK.out wr (Fr.refl _)
          clear hE2 hE h0
          generalize may (l.take k) reg l[k] (sg.getD k []) = er at *
          go_wp2_with (first
            | (go_at_call 30; refine HN.out.mono ?_; rintro e w2 ⟨rfl, rfl⟩)
            | (go_at_call 31; refine (HMY.out _ HQ.out).mono ?_; rintro e w2 ⟨rfl, hf2⟩; have HF2 := Lib.hid hf2; clear hf2))
          go_ret2
          rw [HR.out]
          exact ⟨rfl, hF.out.trans HF2.out⟩
      · have HQ := Lib.hid (show Sl wr (.slice none 0 0) (sg.getD k []) by
          have : sg.getD k [] = [] := by simp [List.getD, Nat.le_of_not_lt hls]
          rw [this]; exact Sl.nil _ _ _)
        by_cases h0 : may (l.take k) reg l[k] (sg.getD k []) = 0
        · rw [if_pos h0] at hE2
          rw [h0] at HMY
          have HR := Lib.hid hE2
          have hl1 := HLK.out wr (Fr.refl _)
          clear hE2 hE h0
          go_wp2_with (first
            | (go_at_call 30; refine HN.out.mono ?_; rintro e w2 ⟨rfl, rfl⟩)
            | (go_at_call 31; refine (HMY.out _ HQ.out).mono ?_; rintro e w2 ⟨rfl, hf2⟩; have hl2 := HLK.out _ hf2; have HF2 := Lib.hid hf2; clear hf2)
            | (go_at_call 32; refine (HAF.out _ HF2.out).mono ?_; rintro e w3 ⟨u', v', rfl, hu', hv', hf3⟩; obtain ⟨w4, hup, hm4, ho4⟩ := HPUT.out _ (HF2.out.trans hf3) u' v' hu' hv'; have HM4 := Lib.hid hm4; have HF4 := Lib.hid ((hF.out.trans (HF2.out.trans hf3)).only ho4 (Nat.le_refl _)); have HS4 := Lib.hid ((hSet.out.fr (HF2.out.trans hf3)).heap (ho4.block (by omega))); clear hu' hv' hf3 hm4 ho4))
          go_roundw
          case rel => exact ⟨k + 1, by omega, by go_num, HR, HM4, HS4, HF4⟩
          case measure => simp [intOf]; omega
        · rw [if_neg h0] at hE2
          have h1 : (may (l.take k) reg l[k] (sg.getD k []) != 0) = true := by simpa using h0
          have HR := Lib.hid hE2
          have hl1 := HLK.out wr (Fr.refl _)
          clear hE2 hE h0
          generalize may (l.take k) reg l[k] (sg.getD k []) = er at *
          go_wp2_with (first
            | (go_at_call 30; refine HN.out.mono ?_; rintro e w2 ⟨rfl, rfl⟩)
            | (go_at_call 31; refine (HMY.out _ HQ.out).mono ?_; rintro e w2 ⟨rfl, hf2⟩; have HF2 := Lib.hid hf2; clear hf2))
          go_ret2
          rw [HR.out]
          exact ⟨rfl, hF.out.trans HF2.out⟩
    · have hkl : k = l.length := by omega
      have HR := Lib.hid (show ad l reg sg = (l.length, 0) by rw [hE.out, hkl]; exact adR_end)
      clear hE
      go_wp2_with fail
      go_ret2
      rw [HR.out]
      exact ⟨rfl, hF.out⟩
end Go.Proofs.Ytddeblcoglhdnaa
