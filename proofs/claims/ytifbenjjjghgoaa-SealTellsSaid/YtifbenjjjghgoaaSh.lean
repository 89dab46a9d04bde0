/-
  The reference's Open; steps beside other things.
-/
import Derived.Test.YtifbenjjjghgoaaSg
namespace Go.Proofs.Ytifbenjjjghgoaa
open Go.RowKit Go.MapKept Go.Maps Go.WideMaps

theorem find_some {O : Nat → Prop} {B : Nat} {q : List Sd} {k : Int} {t : Txt} {n : Nat} (w : World) (h : (RefT B q).at_ w O) (hq : q.length ≤ 1000000) (hp : pm 0 q (k, t) = some n) :
    Calls Try.prog 23 #[.pointer (some ⟨B, 0, none⟩), .int .i64 k, .string (S t)] w fun e w' => e = .returned (.int .i64 n) ∧ w' = w :=
  (find_any O B q k t w h hq).mono fun _ _ ⟨he, hw⟩ => ⟨by rw [he, ixI_some hp], hw⟩
theorem find_none {O : Nat → Prop} {B : Nat} {q : List Sd} {k : Int} {t : Txt} (w : World) (h : (RefT B q).at_ w O) (hq : q.length ≤ 1000000) (hp : (k, t) ∉ q) :
    Calls Try.prog 23 #[.pointer (some ⟨B, 0, none⟩), .int .i64 k, .string (S t)] w fun e w' => e = .returned (.int .i64 (-1)) ∧ w' = w :=
  (find_any O B q k t w h hq).mono fun _ _ ⟨he, hw⟩ => ⟨by rw [he, ixI_none hp], hw⟩

/-- What Open returns. -/
def ROpenP (l : List Sd) (w : World) (r : Ending) (w' : World) : Prop :=
  (∃ B, AllKeys l ∧ l.Nodup ∧ r = .returned (.tuple #[.pointer (some ⟨B, 0, none⟩), .int .i64 0]) ∧ (RefT B l).step (fun _ => False) w w') ∨
  (AllKeys l ∧ ¬ l.Nodup ∧ r = .returned (.tuple #[.pointer none, .int .i64 5]) ∧ Fr w w') ∨
  (¬ AllKeys l ∧ r = .returned (.tuple #[.pointer none, .int .i64 1]) ∧ Fr w w')
def badN (l : List Sd) : Int := if l.Nodup then 0 else 5
theorem badN_old {l : List Sd} {k : Nat} (hk : k < l.length) (h : l[k] ∈ l.take k) : badN (l.take (k + 1)) = 5 := by
  unfold badN
  rw [if_neg]
  intro hn
  rw [List.take_succ_eq_append_getElem hk] at hn
  exact (List.nodup_append.1 hn).2.2 _ h _ (by simp) rfl
theorem badN_new {l : List Sd} {k : Nat} (hk : k < l.length) (h : l[k] ∉ l.take k) : badN (l.take (k + 1)) = badN (l.take k) := by
  unfold badN
  rw [List.take_succ_eq_append_getElem hk]
  have : (l.take k ++ [l[k]]).Nodup ↔ (l.take k).Nodup := by
    constructor
    · exact fun hn => (List.nodup_append.1 hn).1
    · intro hn
      have := addL_nodup (s := l[k]) hn
      rwa [addL_new h] at this
  simp only [this]

set_option maxHeartbeats 4000000 in
theorem ropen_at (b o c : Nat) (l : List Sd) (w : World) (h : At w b o l) (hn : l.length ≤ 1000000) :
    Calls Try.prog 16 #[.slice (some ⟨b, o, none⟩) l.length c] w (ROpenP l w) := by
  obtain ⟨i0, hi, hz0, hz1, hz2⟩ := info_parts infoSd
  have HIN := Lib.hid hi
  have H := Lib.hid h
  clear h hi
  go_enter Try.func16, Try.ntmps16
  go_wp2_with (go_at_call 10; refine (rnew_any _).mono ?_; rintro e w1 ⟨B, rfl, hs⟩)
  have HS := Lib.hid hs
  clear hs
  go_loopw [5, 6] (fun bd i wr => ∃ k : Nat, k ≤ l.length ∧ i = .int .i64 k ∧ bd = .int .i64 (badN (l.take k)) ∧ Hid (AllKeys (l.take k)) ∧ Hid ((RefT B (l.take k)).step (fun _ => False) w wr)) (fun _ i _ => l.length - (intOf i).toNat)
  case atStart => exact ⟨0, Nat.zero_le _, rfl, rfl, Lib.hid (fun e he => by simp at he), HS⟩
  case round =>
    obtain ⟨k, hk, rfl, rfl, hA, hR⟩ := hrel
    by_cases hlt : k < l.length
    · have hc := (H.out.fr (step_toFr hR.out)) k hlt
      have c1 := hc.1
      have c2 := hc.2
      have HMEM := Lib.hid (List.getElem_mem hlt)
      have HTAKE := Lib.hid (List.take_succ_eq_append_getElem hlt)
      have HBO := Lib.hid (fun h => badN_old (l := l) hlt h)
      have HBN := Lib.hid (fun h => badN_new (l := l) hlt h)
      clear hc
      generalize l[k] = x at *
      obtain ⟨y, t⟩ := x
      simp only at c1 c2
      by_cases hy : IsKey y
      · have hy0 : ¬ y < 0 := by have := hy.1; omega
        have hy1 : ¬ 200 ≤ y := by have := hy.2; omega
        have HTK : Hid (AllKeys (l.take (k + 1))) := Lib.hid (fun e he => by
          rw [HTAKE.out, List.mem_append, List.mem_singleton] at he
          rcases he with he | rfl
          · exact hA.out e he
          · exact hy)
        obtain ⟨O1, hT1, hG1, hO1⟩ := hR.out
        have HT1 := Lib.hid hT1
        have hqk : (l.take k).length = k := by rw [List.length_take]; omega
        have HB1 := Lib.hid (show (l.take k).length ≤ 1000000 by omega)
        have HSTEP := Lib.hid (fun w2 => fun (hs2 : (RefT B (l.take (k + 1))).step O1 wr w2) => Thing.step_trans hG1 hO1 hs2)
        clear hT1 hG1 hO1 hy
        cases hm : pm 0 (l.take k) (y, t) with
        | some n =>
          have HM := Lib.hid hm
          have HBD := Lib.hid (HBO.out (mem_of_pm hm))
          clear hm
          go_upto_region 8 with fail
          go_quiet ((go_at_call 23; refine Calls.quiet_of_same (find_some _ ((RefT B (l.take k)).fr HT1.out (Fr.drewN _ _)) HB1.out HM.out)))
          have HTq := (RefT B (l.take k)).fr HT1.out (Fr.drewN wr nq)
          have HFq := Lib.hid (Fr.drewN wr nq)
          have p1 := HFq.out.cell c1
          have p2 := HFq.out.cell c2
          generalize wr.drewN nq = wq at *
          clear c1 c2
          obtain ⟨ev, hr⟩ := HTq
          obtain ⟨a, cc, hev⟩ := row_form hr.row
          subst hev
          have HRq := Lib.hid hr
          rw [hqk] at hr
          have c0 : wq.cell? ⟨B, 0, none⟩ = some (.slice a k cc) := by rw [← hqk]; exact cellOf HRq.out.heap rfl
          have f0 : wq.frozen? ⟨B, 0, none⟩ = false := frozenOf HRq.out.heap 0
          have hlB := HRq.out.bound _ HRq.out.oB
          have HBB : Hid ((Value.slice a k cc).ownBlock ≠ some B) := Lib.hid (fun e => HRq.out.eb B (by rw [hqk]; exact e) rfl)
          have HRow : Hid (wq.ownsRow 0 33 2 (.slice a k cc) k (sdC (l.take k))) := Lib.hid (by have := HRq.out.row; rw [hqk] at this; exact this)
          have hkb : (k + 1) * 24 ≤ 140737488355328 := by omega
          obtain ⟨xs, hxs⟩ : ∃ xs, xs = sdC (l.take k) := ⟨_, rfl⟩
          rw [← hxs] at HRow
          have HXS := Lib.hid hxs
          clear hr hxs
          go_upto_region 10 with fail
          go_region_law
            ((refine step_append_lies _ (by rfl) (.tmp 45) (.tmp 50) 22 (by rfl) 0 33 i0 (.agg #[.int .i64 0, .string (S [])]) 2 24 Try.underlying22 HIN.out hz0 hz1 hz2 rfl (by decide) (.slice a k cc) k xs (by rfl) ((HRow.out.alloc _).drew) ⟨wq.heap.size, 0, none⟩ 1 1 [.int .i64 y, .string (S t)] (by rfl) (by rfl) (World.news_of_block (cs := #[.int .i64 y, .string (S t)]) (t := 33) (fr := (0, 0)) (heap_alloc_new wq _)) (by simp [Value.oneCell']) (by decide) (by unfold maxLen; omega) hkb (Nat.zero_le _) (wq.heap.size + 1) (by simp) ?_
              intro gg cap1 w2 hown1 hgrow hat1 hlt1
              have hg1 := Fr.grown ((Fr.alloc wq (.cells #[.int .i64 y, .string (S t)] 33)).trans (Fr.drew _)) hgrow
              have c33' : w2.cell? ⟨B, 0, none⟩ = some (.slice a k cc) := by
                rw [World.cell?_of_block (hg1.block B hlB (fun e => HBB.out e.symm))]; exact c0
              have f33' : w2.frozen? ⟨B, 0, none⟩ = false := by
                rw [World.frozen?_of_block (hg1.block B hlB (fun e => HBB.out e.symm))]; exact f0
              have HO1 := Lib.hid hown1
              have HG1 := Lib.hid hg1
              have HA1 := Lib.hid hat1
              clear hown1 hgrow hat1 hlt1 hg1))
          all_goals
            go_wp2_with fail
            obtain ⟨v1, hv1⟩ : ∃ v1 : Value, v1 = .slice (some ⟨gg, 0, none⟩) (k + 1) cap1 := ⟨_, rfl⟩
            rw [← hv1] at HO1 ⊢
            have HA2 : Hid (∀ p, v1.ownBlock = some p → (Value.slice a k cc).ownBlock = some p ∨ p = wq.heap.size + 1) := Lib.hid (fun p hp => by
              rw [hv1] at hp
              simp only [Value.ownBlock, Option.some.injEq] at hp
              subst hp
              exact HA1.out)
            clear hv1
            have hrow : w2.ownsRow 0 33 2 v1 ((l.take k).length + 1) (sdC (l.take k) ++ [.int .i64 y, .string (S t)]) := by
              have := HO1.out
              rw [HXS.out] at this
              rw [hqk]
              exact this
            have hGq : wq.grownBy w2 (Value.slice a (l.take k).length cc).ownBlock := by rw [hqk]; exact HG1.out
            have hAt := HRq.out.appended hGq v1 (y, t) hrow
            rw [← HTAKE.out] at hAt
            have hW3 : Own O1 wr (w2.setCell ⟨B, 0, none⟩ v1) := ((Own.of_fr HFq.out).grown hGq (fun p hp => .inl (HRq.out.oE p hp))).only (OnlyB.setCell w2 B 0 v1) (.inl HRq.out.oB)
            have HFIN := Lib.hid (HSTEP.out _ ⟨_, ⟨v1, hAt⟩, fun p hp => by
              have hlt := hAt.bound p hp
              rcases hp with h | h
              · exact .inl h
              · rcases HA2.out p h with h1 | h1
                · exact .inl (HRq.out.oE p (by rw [hqk]; exact h1))
                · exact .inr ⟨by have := HFq.out.size; omega, hlt⟩, hW3⟩)
            clear hrow hGq hAt hW3 c0 f0 p1 p2 HO1 HG1 HA1 HA2 c33' f33'
            generalize (w2.setCell ⟨B, 0, none⟩ v1) = w3 at *
            go_roundw
            case rel => exact ⟨k + 1, by omega, by go_num, by rw [HBD.out], HTK, HFIN⟩
            case measure => simp [intOf]; omega
        | none =>
          have HM := Lib.hid (pm_none.1 hm)
          have HBD := Lib.hid (HBN.out (pm_none.1 hm))
          clear hm
          go_upto_region 8 with fail
          go_quiet ((go_at_call 23; refine Calls.quiet_of_same (find_none _ ((RefT B (l.take k)).fr HT1.out (Fr.drewN _ _)) HB1.out HM.out)))
          have HTq := (RefT B (l.take k)).fr HT1.out (Fr.drewN wr nq)
          have HFq := Lib.hid (Fr.drewN wr nq)
          have p1 := HFq.out.cell c1
          have p2 := HFq.out.cell c2
          generalize wr.drewN nq = wq at *
          clear c1 c2
          obtain ⟨ev, hr⟩ := HTq
          obtain ⟨a, cc, hev⟩ := row_form hr.row
          subst hev
          have HRq := Lib.hid hr
          rw [hqk] at hr
          have c0 : wq.cell? ⟨B, 0, none⟩ = some (.slice a k cc) := by rw [← hqk]; exact cellOf HRq.out.heap rfl
          have f0 : wq.frozen? ⟨B, 0, none⟩ = false := frozenOf HRq.out.heap 0
          have hlB := HRq.out.bound _ HRq.out.oB
          have HBB : Hid ((Value.slice a k cc).ownBlock ≠ some B) := Lib.hid (fun e => HRq.out.eb B (by rw [hqk]; exact e) rfl)
          have HRow : Hid (wq.ownsRow 0 33 2 (.slice a k cc) k (sdC (l.take k))) := Lib.hid (by have := HRq.out.row; rw [hqk] at this; exact this)
          have hkb : (k + 1) * 24 ≤ 140737488355328 := by omega
          obtain ⟨xs, hxs⟩ : ∃ xs, xs = sdC (l.take k) := ⟨_, rfl⟩
          rw [← hxs] at HRow
          have HXS := Lib.hid hxs
          clear hr hxs
          go_upto_region 10 with fail
          go_region_law
            ((refine step_append_lies _ (by rfl) (.tmp 45) (.tmp 50) 22 (by rfl) 0 33 i0 (.agg #[.int .i64 0, .string (S [])]) 2 24 Try.underlying22 HIN.out hz0 hz1 hz2 rfl (by decide) (.slice a k cc) k xs (by rfl) ((HRow.out.alloc _).drew) ⟨wq.heap.size, 0, none⟩ 1 1 [.int .i64 y, .string (S t)] (by rfl) (by rfl) (World.news_of_block (cs := #[.int .i64 y, .string (S t)]) (t := 33) (fr := (0, 0)) (heap_alloc_new wq _)) (by simp [Value.oneCell']) (by decide) (by unfold maxLen; omega) hkb (Nat.zero_le _) (wq.heap.size + 1) (by simp) ?_
              intro gg cap1 w2 hown1 hgrow hat1 hlt1
              have hg1 := Fr.grown ((Fr.alloc wq (.cells #[.int .i64 y, .string (S t)] 33)).trans (Fr.drew _)) hgrow
              have c33' : w2.cell? ⟨B, 0, none⟩ = some (.slice a k cc) := by
                rw [World.cell?_of_block (hg1.block B hlB (fun e => HBB.out e.symm))]; exact c0
              have f33' : w2.frozen? ⟨B, 0, none⟩ = false := by
                rw [World.frozen?_of_block (hg1.block B hlB (fun e => HBB.out e.symm))]; exact f0
              have HO1 := Lib.hid hown1
              have HG1 := Lib.hid hg1
              have HA1 := Lib.hid hat1
              clear hown1 hgrow hat1 hlt1 hg1))
          all_goals
            go_wp2_with fail
            obtain ⟨v1, hv1⟩ : ∃ v1 : Value, v1 = .slice (some ⟨gg, 0, none⟩) (k + 1) cap1 := ⟨_, rfl⟩
            rw [← hv1] at HO1 ⊢
            have HA2 : Hid (∀ p, v1.ownBlock = some p → (Value.slice a k cc).ownBlock = some p ∨ p = wq.heap.size + 1) := Lib.hid (fun p hp => by
              rw [hv1] at hp
              simp only [Value.ownBlock, Option.some.injEq] at hp
              subst hp
              exact HA1.out)
            clear hv1
            have hrow : w2.ownsRow 0 33 2 v1 ((l.take k).length + 1) (sdC (l.take k) ++ [.int .i64 y, .string (S t)]) := by
              have := HO1.out
              rw [HXS.out] at this
              rw [hqk]
              exact this
            have hGq : wq.grownBy w2 (Value.slice a (l.take k).length cc).ownBlock := by rw [hqk]; exact HG1.out
            have hAt := HRq.out.appended hGq v1 (y, t) hrow
            rw [← HTAKE.out] at hAt
            have hW3 : Own O1 wr (w2.setCell ⟨B, 0, none⟩ v1) := ((Own.of_fr HFq.out).grown hGq (fun p hp => .inl (HRq.out.oE p hp))).only (OnlyB.setCell w2 B 0 v1) (.inl HRq.out.oB)
            have HFIN := Lib.hid (HSTEP.out _ ⟨_, ⟨v1, hAt⟩, fun p hp => by
              have hlt := hAt.bound p hp
              rcases hp with h | h
              · exact .inl h
              · rcases HA2.out p h with h1 | h1
                · exact .inl (HRq.out.oE p (by rw [hqk]; exact h1))
                · exact .inr ⟨by have := HFq.out.size; omega, hlt⟩, hW3⟩)
            clear hrow hGq hAt hW3 c0 f0 p1 p2 HO1 HG1 HA1 HA2 c33' f33'
            generalize (w2.setCell ⟨B, 0, none⟩ v1) = w3 at *
            go_roundw
            case rel => exact ⟨k + 1, by omega, by go_num, by rw [HBD.out], HTK, HFIN⟩
            case measure => simp [intOf]; omega
      · have hno : y < 0 ∨ (¬ y < 0 ∧ 200 ≤ y) := by unfold IsKey at hy; omega
        have HBad := Lib.hid (show ¬ AllKeys l from fun h => hy (h _ HMEM.out))
        rcases hno with hno | ⟨hno1, hno2⟩
        · go_wp2_with fail
          go_ret2
          exact .inr (.inr ⟨HBad.out, rfl, step_toFr hR.out⟩)
        · go_wp2_with fail
          go_ret2
          exact .inr (.inr ⟨HBad.out, rfl, step_toFr hR.out⟩)
    · obtain rfl : k = l.length := by omega
      rw [List.take_length] at hA hR ⊢
      clear hlt
      by_cases hnd : l.Nodup
      · have hb : badN l = 0 := if_pos hnd
        have HN := Lib.hid hnd
        rw [hb]
        clear hnd hb
        go_wp2_with fail
        go_ret2
        exact .inl ⟨B, hA.out, HN.out, rfl, hR.out⟩
      · have hb : badN l = 5 := if_neg hnd
        have HN := Lib.hid hnd
        rw [hb]
        clear hnd hb
        go_wp2_with fail
        go_ret2
        exact .inr (.inl ⟨hA.out, HN.out, rfl, step_toFr hR.out⟩)
end Go.Proofs.Ytifbenjjjghgoaa
