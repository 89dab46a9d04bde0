/-
  The law JournalLasts, walked.
-/
import Derived.Test.YtgncliigmjeffaaDoorJx
import Derived.Test.YtgncliigmjeffaaDoorJLS
namespace Go.Proofs.YtgncliigmjeffaaDoor
open Go.RowKit

theorem la_new : LA newS 3 [] [] := LA.exact good_new rfl rfl (by intro r hr; simp at hr)

theorem LJ.keep {w w' : World} {O : Nat → Prop} {B J n : Nat} {rs all sure : List (List UInt8)} {br : Bool} (h : LJ w O B J rs br all sure n) (hs : w.heap.size ≤ w'.heap.size) (hk : ∀ k, O k → w'.heap[k]? = w.heap[k]?) : LJ w' O B J rs br all sure n := let ⟨s, h1⟩ := h; ⟨s, h1.la, h1.jd.keep hs hk, h1.file, h1.cnt, h1.cntA, h1.small⟩
theorem LO.bound {w : World} {O : Nat → Prop} {B n : Nat} {jv : Value} {all sure : List (List UInt8)} (h : LO w O B jv all sure n) : ∀ k, O k → k < w.heap.size := by
  rcases h with ⟨_, s, _, h2, _⟩ | ⟨J, rs, br, _, h⟩
  · exact h2.bound
  · exact h.bound
theorem LO.cnt {w : World} {O : Nat → Prop} {B n : Nat} {jv : Value} {all sure : List (List UInt8)} (h : LO w O B jv all sure n) : all.length ≤ n := by
  rcases h with ⟨_, s, _, _, h3, _⟩ | ⟨J, rs, br, _, h⟩
  · exact h3
  · exact h.cnt.2
theorem step_append_own {P : Program} {ops : Array Oper} {op : Oper} {a : Act} {w : World} {K : Act → World → Prop} {Q : Exit → Act → World → Prop} {E : Prop} (hg : op.guard = none) (s x : Operand) (t : TypeId)
    (hop : op.op = .call { callee := .builtin .append, args := #[s, x], argTypes := #[t, t] }) (base : Nat) (e : TypeId) (i : TypeInfo) (z : Value) (size bytes : Nat) (h1 : P.underlying t = some (.slice e)) (h2 : P.info? e = some i) (h3 : i.zero = some z) (h4 : i.size = size) (h5 : i.bytes = bytes) (h6 : z.cells.size = size) (h7 : 0 < size)
    (v : Value) (n : Nat) (xs : List Value) (hs : a.eval s = v) (hrow : w.ownsRow base e size v n xs) (ad : Addr) (m c : Nat) (news : List Value) (hx : a.eval x = .slice (some ad) m c) (hl : news.length = m * size) (hn : ∀ j u, news[j]? = some u → w.cell? (ad.add j) = some u) (hone : ∀ u ∈ news, u.oneCell' = true)
    (b1 : n + m ≤ maxLen) (b2 : (n + m) * bytes ≤ 140737488355328) (hb : base ≤ w.heap.size) (hK : ∀ v' w', w'.ownsRow base e size v' (n + m) (xs ++ news) → w.grownBy w' v.ownBlock → K (a.put op.dst v') w') :
    if Region.wanted op (yielded ops a.tmps) = true then Oper.wp P op a w K Q else E := by
  have hw : Region.wanted op (yielded ops a.tmps) = true := by simp [Region.wanted, hg]
  rw [if_pos hw]
  exact wp_append_own w s x t hop base e i z size bytes h1 h2 h3 h4 h5 h6 h7 v n xs hs hrow ad m c news hx hl hn hone b1 b2 hb (fun v' w' r1 r2 _ => hK v' w' r1 r2)
theorem wpList_append_wanted {P : Program} {ops : Array Oper} {rest : List Oper} {op : Oper} {a : Act} {w : World} {Q : Exit → Act → World → Prop} (hw : Region.wanted op (yielded ops a.tmps) = true) (s x : Operand) (t : TypeId)
    (hop : op.op = .call { callee := .builtin .append, args := #[s, x], argTypes := #[t, t] }) (base : Nat) (e : TypeId) (i : TypeInfo) (z : Value) (size bytes : Nat) (h1 : P.underlying t = some (.slice e)) (h2 : P.info? e = some i) (h3 : i.zero = some z) (h4 : i.size = size) (h5 : i.bytes = bytes) (h6 : z.cells.size = size) (h7 : 0 < size)
    (v : Value) (n : Nat) (xs : List Value) (hs : a.eval s = v) (hrow : w.ownsRow base e size v n xs) (ad : Addr) (m c : Nat) (news : List Value) (hx : a.eval x = .slice (some ad) m c) (hl : news.length = m * size) (hn : ∀ j u, news[j]? = some u → w.cell? (ad.add j) = some u) (hone : ∀ u ∈ news, u.oneCell' = true)
    (hm : 0 < m) (b1 : n + m ≤ maxLen) (b2 : (n + m) * bytes ≤ 140737488355328) (hb : base ≤ w.heap.size) (H : Nat) (hH : w.heap.size = H)
    (hK : ∀ g cap w', w'.ownsRow base e size (.slice (some ⟨g, 0, none⟩) (n + m) cap) (n + m) (xs ++ news) → w.grownBy w' v.ownBlock → (v.ownBlock = some g ∨ g = H) → g < w'.heap.size → wpList P ops Q rest (a.put op.dst (.slice (some ⟨g, 0, none⟩) (n + m) cap)) w') :
    wpList P ops Q (op :: rest) a w := by
  refine wpList_step fun K hk => ?_
  rw [if_pos hw]
  exact wp_append_lies w s x t hop base e i z size bytes h1 h2 h3 h4 h5 h6 h7 v n xs hs hrow ad m c news hx hl hn hone hm b1 b2 hb H hH (fun g cap w' r1 r2 r3 r4 => hk _ _ (hK g cap w' r1 r2 r3 r4))
theorem fr_row {w w1 w2 : World} {v : Value} {base n : Nat} {xs : List Value} (h : Fr w w1) (hr : w1.ownsRow base 9 1 v n xs) (hb : w.heap.size ≤ base) (hg : w1.grownBy w2 v.ownBlock) : Fr w w2 :=
  ⟨hg.os.trans h.os, hg.tape.trans h.tape, hg.output.trans h.output, Nat.le_trans h.size hg.size, fun i hi _ => (hg.block i (Nat.lt_of_lt_of_le hi h.size) (fun e => by have := (hr.lt i e.symm).1; omega)).trans (World.grownBy.block h i hi (by simp))⟩
theorem row_fr {w w' : World} {v : Value} {base n : Nat} {xs : List Value} (hr : w.ownsRow base 9 1 v n xs) (h : Fr w w') : w'.ownsRow base 9 1 v n xs :=
  ownsRow_heap hr (fun p hp => World.grownBy.block h p (hr.lt p hp).2 (by simp))
theorem addr_at (g j : Nat) : (⟨g, 0, none⟩ : Addr).add j = ⟨g, j, none⟩ := by unfold Addr.add; split <;> simp_all
theorem row_conv {w : World} {base : Nat} {v : Value} {all : List (List UInt8)} {r : List UInt8} (h : Hid (w.ownsRow base 9 1 v (0 + all.length + 1) ([] ++ strs all ++ [.string (S r)]))) : Hid (w.ownsRow base 9 1 v (all ++ [r]).length (strs (all ++ [r]))) := by
  have h2 := h.out
  rw [Nat.zero_add, List.nil_append] at h2
  exact Lib.hid (by rw [List.length_append, strs_snoc]; exact h2)
/-- Append to a slice of the law's own changes no other block. -/
theorem Mine.other {W w w4 : World} {O : Nat → Prop} {v : Value} {rs : List (List UInt8)} {ob : Obj} (_h : Mine W w O v rs) (hgr : (w.alloc ob).grownBy w4 v.ownBlock) : ∀ k, k < w.heap.size → v.ownBlock ≠ some k → w4.heap[k]? = w.heap[k]? := fun k hk hne => by
  have hsA : (w.alloc ob).heap.size = w.heap.size + 1 := by simp
  rw [hgr.block k (by omega) (fun e => hne e.symm)]
  exact World.grownBy.block (Fr.alloc w ob) k hk (by simp)
theorem Mine.keep {W w w' : World} {O : Nat → Prop} {v : Value} {rs : List (List UInt8)} (h : Mine W w O v rs) (hk : ∀ p, v.ownBlock = some p → w'.heap[p]? = w.heap[p]?) : Mine W w' O v rs := ⟨ownsRow_heap h.row hk, h.off⟩
theorem Mine.fresh {W w w' : World} {O : Nat → Prop} {v : Value} {rs : List (List UInt8)} (hn : New W w O) (hb : ∀ k, O k → k < w.heap.size) (hr : w'.ownsRow w.heap.size 9 1 v rs.length (strs rs)) : Mine W w' O v rs :=
  ⟨row_mono hr hn.fr.size, fun p hp ho => by have h1 := (hr.lt p hp).1; have h2 := hb p ho; omega⟩
theorem LD.bound {w : World} {O : Nat → Prop} {B n : Nat} {all sure : List (List UInt8)} (h : LD w O B all sure n) : ∀ k, O k → k < w.heap.size := let ⟨_, _, h2, _⟩ := h; h2.bound

set_option maxHeartbeats 40000000 in
set_option maxRecDepth 100000 in
theorem lasts_law (v0 v1 : Value) (o : List OP) (k1 : List Int) (W : World) (ht : Tab W) (ho : Opl W v0 o) (h1 : Ints W v1 k1) (hol : o.length ≤ 9223372036854775807) (hk1 : k1.length ≤ 9223372036854775807) :
    Calls Tryd.prog 4 #[v0, v1] W fun e w' => e = .returned (.bool true) ∧ Fr W w' := by
  obtain ⟨i0, hi, hz0, hz1, hz2⟩ := info_parts infoStr
  obtain ⟨a0, c0, hv0⟩ := ho.form
  obtain ⟨a1, c1, hv1⟩ := h1.form
  subst hv0 hv1
  have HO := Lib.hid ho
  have H1 := Lib.hid h1
  have HI := Lib.hid hi
  clear ho h1 hi
  go_enter Tryd.func4, Tryd.ntmps4
  go_wp2_with fail
  refine (jsmall_any W ht).mono ?_
  rintro e w1 ⟨rfl, hf1⟩
  have HF1 := Lib.hid hf1
  clear hf1
  go_wp2_with fail
  refine (few_any _ o w1 (opl_fr HO.out HF1.out) hol).mono ?_
  rintro e w2 ⟨rfl, hf2⟩
  have HF2 := Lib.hid (HF1.out.trans hf2)
  clear hf2 HF1
  cases hfew : fewB o with
  | false =>
    go_wp2_with fail
    go_ret
    exact ⟨rfl, HF2.out⟩
  | true =>
    have HFEW := Lib.hid (fewB_true hfew)
    clear hfew
    by_cases hl1 : 50 < k1.length
    · go_wp2_with fail
      go_ret
      exact ⟨rfl, HF2.out⟩
    go_wp2_with fail
    refine (new_any w2).mono ?_
    rintro e w3 ⟨B, rfl, O3, hd3, hs3a, hs3b⟩
    have HD3 := Lib.hid hd3
    have HN3 := Lib.hid ((New.refl w2).step ⟨hs3a, hs3b⟩)
    clear hd3 hs3a hs3b
    go_wp2_with fail
    refine (la_open (n := 0) HD3.out la_new (Nat.le_refl _) (by intro r hr; simp at hr)).mono ?_
    rintro e w4 ⟨O4, hs4, ⟨E, _, _, _, hnq⟩ | ⟨J, qs, rfl, ⟨ps, hps⟩, _, hj4⟩⟩
    · exact absurd ⟨rfl, rfl, rfl⟩ hnq
    obtain rfl : qs = [] := by
      have := congrArg List.length hps
      rw [List.length_append] at this
      exact List.length_eq_zero_iff.1 (by simp at this; omega)
    have HN4 := Lib.hid (HN3.out.step hs4)
    have HX4 : Hid (LO w4 O4 B (.pointer (some ⟨J, 0, none⟩)) [] [] 0) := Lib.hid (.inr ⟨J, [], false, rfl, hj4⟩)
    have HT2 := Lib.hid (ht.fr HF2.out)
    clear hs4 hps hj4 HD3 HN3 ht
    go_wp2_with fail
    go_loopw [7, 9, 10, 11] (fun jv va vs i wr => ∃ (k : Nat) (O : Nat → Prop) (all sure : List (List UInt8)), k ≤ o.length + 1 ∧ i = .int .i64 k ∧ Hid (New w2 wr O) ∧ Hid (LO wr O B jv all sure k) ∧ Hid (Mine w2 wr O va all) ∧ Hid (Mine w2 wr O vs sure)) (fun _ _ _ i _ => o.length + 1 - (intOf i).toNat)
    case atStart => exact ⟨0, O4, [], [], Nat.zero_le _, rfl, HN4, HX4, Lib.hid ⟨World.ownsRow_nil _ _ _ _, fun p hp => by simp [Value.ownBlock] at hp⟩, Lib.hid ⟨World.ownsRow_nil _ _ _ _, fun p hp => by simp [Value.ownBlock] at hp⟩⟩
    case round =>
      obtain ⟨k, O, all, sure, hk, rfl, HN, HX, HA, HS⟩ := hrel
      clear HN4 HX4
      have hol25 := HFEW.out.1
      by_cases hend : k = o.length + 1
      · subst hend
        go_wp2_with fail
        go_ret
        exact ⟨rfl, HF2.out.trans HN.out.fr⟩
      by_cases hlt : k < o.length
      · obtain ⟨b, oo, ha0, hat0⟩ := HO.out.get k hlt
        have hat := hat0.fr (HF2.out.trans HN.out.fr)
        have HA0 := Lib.hid ha0
        rw [ha0]
        have hm : o[k] ∈ o := List.getElem_mem hlt
        have hfewk := HFEW.out.2 _ hm
        have hi0 := hat0.ints
        generalize o[k] = a at hat hfewk hi0
        have HI0 := Lib.hid hi0
        obtain ⟨kd, hkd⟩ : ∃ kd, kd = a.k := ⟨_, rfl⟩
        have q0 := hat.c0
        rw [← hkd] at q0
        have q1 := hat.c1
        rw [show a.str = S a.l from S_eta a.str] at q1
        have q2 := hat.c2
        have q3 := hat.c3
        have HAT := Lib.hid hat
        have HFK := Lib.hid hfewk
        obtain ⟨ka, kc, hks⟩ := hat.ints.form
        rw [hks] at q3
        have HKS := Lib.hid hks
        have hlk : a.ks.length ≤ 50 := hfewk.2
        clear hat0 hat hm hfewk ha0 hkd hks hi0 hend
        have hfa := Fr.alloc wr (.cells #[.int .i64 4, .string ⟨#[]⟩, .int .i64 0, .slice a1 k1.length c1] 38)
        have q0 := hfa.cell q0
        have q1 := hfa.cell q1
        have q2 := hfa.cell q2
        have q3 := hfa.cell q3
        clear hfa
        go_upto_region 20 with fail
        obtain ⟨T, hT⟩ : ∃ T, T = wr.heap.size := ⟨_, rfl⟩
        have hTO : ¬ O T := fun h => by have := HX.out.bound T h; omega
        obtain ⟨wo, hwo⟩ : ∃ wo, wo = wr.alloc (.cells #[.int .i64 kd, .string (S a.l), .int .i64 a.n, .slice ka a.ks.length kc] 38) := ⟨_, rfl⟩
        have hfo : Fr wr wo := hwo ▸ Fr.alloc wr _
        have hTh : wo.heap[T]? = some (.cells #[.int .i64 kd, .string (S a.l), .int .i64 a.n, .slice ka a.ks.length kc] 38 (0, 0)) := by rw [hwo, hT]; exact heap_alloc_new wr _
        rw [← hwo, ← hT]
        have d0 : wo.cell? ⟨T, 0, none⟩ = some (.int .i64 kd) := cellOf hTh rfl
        have d1 : wo.cell? ⟨T, 1, none⟩ = some (.string (S a.l)) := cellOf hTh rfl
        have d2 : wo.cell? ⟨T, 2, none⟩ = some (.int .i64 a.n) := cellOf hTh rfl
        have d3 : wo.cell? ⟨T, 3, none⟩ = some (.slice ka a.ks.length kc) := cellOf hTh rfl
        have hTlt : T < wo.heap.size := (Array.getElem?_eq_some_iff.1 hTh).1
        have HN := Lib.hid (HN.out.step (.fr hfo))
        have HX := Lib.hid (HX.out.fr hfo)
        have HA := Lib.hid (HA.out.step (.fr hfo))
        have HS := Lib.hid (HS.out.step (.fr hfo))
        have hcnt := HX.out.cnt
        have HTH := Lib.hid hTh
        have HTO := Lib.hid hTO
        clear q0 q1 q2 q3 hT hTO hwo hfo hTh
        by_cases z0 : kd = 0
        · subst z0
          rcases HX.out with ⟨rfl, hd⟩ | ⟨J, rs, br, rfl, hj⟩
          · clear hd
            go_wp2_with fail
            go_roundw
            case rel => exact ⟨k + 1, O, all, sure, by omega, by go_num, HN, Lib.hid (LO.mono HX.out (by omega)), HA, HS⟩
            case measure => simp [intOf]; omega
          · have HJ := Lib.hid hj
            have hcj := hj.cnt
            obtain ⟨rv, hjn⟩ := hj.jn
            clear hj
            go_wp2_with fail
            refine (all_any hjn (by omega)).mono ?_
            rintro e wa ⟨before, rfl, hrow, hfa⟩
            have HB := Lib.hid (Mine.fresh HN.out HX.out.bound hrow)
            have HBge := Lib.hid (fun p hp => (hrow.lt p hp).1)
            have HBlt := Lib.hid (fun p hp => (hrow.lt p hp).2)
            have HSlt := Lib.hid (fun p hp => (HS.out.row.lt p hp).2)
            have HNa := Lib.hid (HN.out.step (.fr hfa))
            have HAa := Lib.hid (HA.out.step (.fr hfa))
            have HSa := Lib.hid (HS.out.step (.fr hfa))
            have HJa := Lib.hid (HJ.out.fr hfa)
            have HTa := Lib.hid (hfa.heap HTH.out)
            have e1 := hfa.cell d1
            have hfaSize := Lib.hid hfa.size
            clear hrow hfa hjn HX HJ d0 d1 d2 d3
            go_wp2_with fail
            refine (lj_append HJa.out a.l HFK.out.1 (by omega) (HT2.out.fr HNa.out.fr)).mono ?_
            rintro e wb ⟨E, O', rfl, hst, hcase⟩
            have HNb := Lib.hid (HNa.out.step hst)
            have HAb := Lib.hid (HAa.out.step hst)
            have HSb := Lib.hid (HSa.out.step hst)
            have HBb := Lib.hid (HB.out.step hst)
            have HAB := Lib.hid hst.own.size
            have HOA := Lib.hid hfaSize.out
            have HTb := Lib.hid ((hst.own.block T (by have := (Array.getElem?_eq_some_iff.1 HTa.out).1; exact this) HTO.out).trans HTa.out)
            clear hst e1 HNa HAa HSa HB HJa HTa
            obtain ⟨rs', br', all', hj, hdis⟩ : ∃ (rs' : List (List UInt8)) (br' : Bool) (all' : List (List UInt8)), LJ wb O' B J rs' br' all' sure (k + 1) ∧ ((E = 0 ∧ rs' = rs ++ [a.l] ∧ all' = all ++ [a.l]) ∨ (E = 8 ∧ rs' = rs ∧ all' = all ++ [a.l]) ∨ (E = 7 ∧ rs' = rs ∧ all' = all)) := by
              rcases hcase with ⟨h1, h2⟩ | ⟨h1, h2⟩ | ⟨h1, h2⟩
              · exact ⟨_, _, _, h2, .inl ⟨h1, rfl, rfl⟩⟩
              · exact ⟨_, _, _, h2, .inr (.inl ⟨h1, rfl, rfl⟩)⟩
              · exact ⟨_, _, _, h2.mono (by omega), .inr (.inr ⟨h1, rfl, rfl⟩)⟩
            have HD := Lib.hid hdis
            have HJb := Lib.hid hj
            obtain ⟨rvb, hjnb⟩ := hj.jn
            have hcb := hj.cnt.1
            clear hj hdis hcase
            go_wp2_with fail
            refine (all_any hjnb (by omega)).mono ?_
            rintro e wc ⟨after, rfl, hrow, hfc⟩
            have HFc := Lib.hid (Mine.fresh HNb.out HJb.out.bound hrow)
            have HFge := Lib.hid (fun p hp => (hrow.lt p hp).1)
            have HNc := Lib.hid (HNb.out.step (.fr hfc))
            have HAc := Lib.hid (HAb.out.step (.fr hfc))
            have HSc := Lib.hid (HSb.out.step (.fr hfc))
            have HBc := Lib.hid (HBb.out.step (.fr hfc))
            have HJc := Lib.hid (HJb.out.fr hfc)
            have hTc := hfc.heap HTb.out
            have e1 : wc.cell? ⟨T, 1, none⟩ = some (.string (S a.l)) := cellOf hTc rfl
            have HE1' := Lib.hid e1
            have HBC := Lib.hid hfc.size
            clear hrow hfc hjnb hTc HNb HAb HSb HBb HJb HTb
            go_upto_region 26 with fail
            go_cut [77] (fun c wx => c = .bool (decide (E ≠ 7)) ∧ wx = wc)
            case first =>
              rcases HD.out with ⟨rfl, _⟩ | ⟨rfl, _⟩ | ⟨rfl, _⟩
              · go_wp2_with fail
                go_meet
                exact ⟨rfl, rfl⟩
              · go_wp2_with fail
                refine (disky_yes 8 _ (.inl rfl)).mono ?_
                rintro e wd ⟨rfl, rfl⟩
                go_wp2_with fail
                go_meet
                exact ⟨rfl, rfl⟩
              · go_wp2_with fail
                refine (disky_seven _).mono ?_
                rintro e wd ⟨rfl, rfl⟩
                go_wp2_with fail
                go_meet
                exact ⟨rfl, rfl⟩
            case rest =>
              obtain ⟨rfl, rfl⟩ := hcut
              by_cases hE7 : E = 7
              · as_aux_lemma =>
                  subst hE7
                  obtain ⟨rfl, rfl⟩ : rs' = rs ∧ all' = all := by
                    rcases HD.out with ⟨h, _⟩ | ⟨h, _⟩ | ⟨_, h1, h2⟩
                    · exact absurd h (by decide)
                    · exact absurd h (by decide)
                    · exact ⟨h1, h2⟩
                  have hs7 := sameTexts_any after before rs' wc HFc.out.ro.row.isSl HBc.out.ro.row.isSl (by omega)
                  have H7 := Lib.hid hs7
                  clear hs7 e1
                  go_wp2_with fail
                  refine H7.out.mono ?_
                  rintro e wd ⟨rfl, hfd⟩
                  have HNd := Lib.hid (HNc.out.step (.fr hfd))
                  have HAd := Lib.hid (HAc.out.step (.fr hfd))
                  have HSd := Lib.hid (HSc.out.step (.fr hfd))
                  have HXd : Hid (LO wd O' B (.pointer (some ⟨J, 0, none⟩)) all' sure (k + 1)) := Lib.hid (.inr ⟨J, _, _, rfl, HJc.out.fr hfd⟩)
                  clear hfd H7 HNc HAc HSc HJc
                  go_wp2_with fail
                  go_roundw
                  case rel => exact ⟨k + 1, O', all', sure, by omega, by go_num, HNd, HXd, HAd, HSd⟩
                  case measure => simp [intOf]; omega
              · have hall' : all' = all ++ [a.l] := by
                  rcases HD.out with ⟨_, _, h⟩ | ⟨_, _, h⟩ | ⟨h, _⟩
                  · exact h
                  · exact h
                  · exact absurd h hE7
                subst hall'
                rw [decide_eq_true hE7]
                have HE7 := Lib.hid hE7
                clear hE7
                go_upto_region 27 with fail
                go_cut [9] (fun v wx => Hid (Fr wc wx) ∧ Hid (wx.ownsRow wc.heap.size 9 1 v (all ++ [a.l]).length (strs (all ++ [a.l]))))
                case first =>
                  have hE1 : ∀ w', Fr wc w' → w'.cell? ⟨T, 1, none⟩ = some (.string (S a.l)) := fun w' h => h.cell e1
                  have hlA : (((wc.alloc (.cells #[] 9)).alloc (.cells #[.string (S a.l)] 9)).drew).ownsRow wc.heap.size 9 1 (.slice (some ⟨wc.heap.size, 0, none⟩) 0 0) 0 [] := row_fr (World.ownsRow_lit (base := wc.heap.size) (e := 9) (size := 1) wc #[] 0 (Nat.le_refl _) (Nat.zero_le _) rfl) ((Fr.alloc _ (.cells #[.string (S a.l)] 9)).trans (Fr.drew _))
                  have hlB : (((wc.alloc (.cells #[.string (S a.l)] 9)).alloc (.cells #[] 9)).drew).ownsRow wc.heap.size 9 1 (.slice (some ⟨wc.heap.size + 1, 0, none⟩) 0 0) 0 [] := by
                    have h := World.ownsRow_lit (base := wc.heap.size) (e := 9) (size := 1) (wc.alloc (.cells #[.string (S a.l)] 9)) #[] 0 (by simp) (Nat.zero_le _) rfl
                    rw [show (wc.alloc (.cells #[.string (S a.l)] 9)).heap.size = wc.heap.size + 1 by simp] at h
                    exact h
                  have hxA : (((wc.alloc (.cells #[] 9)).alloc (.cells #[.string (S a.l)] 9)).drew).heap[wc.heap.size + 1]? = some (.cells #[.string (S a.l)] 9 (0, 0)) := by
                    have h := heap_alloc_new (wc.alloc (.cells #[] 9)) (.cells #[.string (S a.l)] 9)
                    rw [show (wc.alloc (.cells #[] 9)).heap.size = wc.heap.size + 1 by simp] at h
                    exact h
                  have hxB : (((wc.alloc (.cells #[.string (S a.l)] 9)).alloc (.cells #[] 9)).drew).heap[wc.heap.size]? = some (.cells #[.string (S a.l)] 9 (0, 0)) := (Fr.alloc (wc.alloc (.cells #[.string (S a.l)] 9)) (.cells #[] 9)).heap (heap_alloc_new wc (.cells #[.string (S a.l)] 9))
                  have HLA := Lib.hid hlA
                  have HLB := Lib.hid hlB
                  have HXA := Lib.hid hxA
                  have HXB := Lib.hid hxB
                  have e2 := hE1 _ ((Fr.alloc wc (.cells #[] 9)).trans (Fr.drew _))
                  have e3 := hE1 _ (Fr.drew wc)
                  have HE1 := Lib.hid hE1
                  clear e1 hE1 hlA hlB hxA hxB
                  rcases row_cap HAc.out.ro.row with ⟨h0, h00⟩ | ⟨ab, ac, h0, hac, hcc⟩
                  · as_aux_lemma =>
                      subst h0 h00
                      go_wp2_with fail
                      go_region_law ((first | (refine step_append_own (w := ((wc.alloc (.cells #[] 9)).alloc (.cells #[.string (S a.l)] 9)).drew) (op := ⟨some 84, _, _, _, _, _⟩) (by rfl) (.tmp 80) (.tmp 83) 46 (by rfl) wc.heap.size 9 i0 (.string (S [])) 1 16 Tryd.underlying46 HI.out hz0 hz1 hz2 rfl (by decide) (.slice (some ⟨wc.heap.size, 0, none⟩) 0 0) 0 [] (by rfl) HLA.out ⟨wc.heap.size + 1, 0, none⟩ 1 1 [.string (S a.l)] (by rfl) (by rfl) (World.news_of_block HXA.out) (by simp [Value.oneCell']) (by unfold maxLen; omega) (by omega) (by simp <;> omega) ?_; (intro v2 w2 hown2 hgr2; have HO2 := Lib.hid hown2; have HF2' := Lib.hid (fr_row ((Fr.alloc wc (.cells #[] 9)).trans ((Fr.alloc _ (.cells #[.string (S a.l)] 9)).trans (Fr.drew _))) HLA.out (Nat.le_refl _) hgr2); clear hown2 hgr2)) | (refine step_append_own (w := ((wc.alloc (.cells #[.string (S a.l)] 9)).alloc (.cells #[] 9)).drew) (op := ⟨some 84, _, _, _, _, _⟩) (by rfl) (.tmp 80) (.tmp 83) 46 (by rfl) wc.heap.size 9 i0 (.string (S [])) 1 16 Tryd.underlying46 HI.out hz0 hz1 hz2 rfl (by decide) (.slice (some ⟨wc.heap.size + 1, 0, none⟩) 0 0) 0 [] (by rfl) HLB.out ⟨wc.heap.size, 0, none⟩ 1 1 [.string (S a.l)] (by rfl) (by rfl) (World.news_of_block HXB.out) (by simp [Value.oneCell']) (by unfold maxLen; omega) (by omega) (by simp <;> omega) ?_; (intro v2 w2 hown2 hgr2; have HO2 := Lib.hid hown2; have HF2' := Lib.hid (fr_row ((Fr.alloc wc (.cells #[.string (S a.l)] 9)).trans ((Fr.alloc _ (.cells #[] 9)).trans (Fr.drew _))) HLB.out (Nat.le_refl _) hgr2); clear hown2 hgr2))))
                      all_goals (go_wp2_with fail; go_meet; exact ⟨HF2', HO2⟩)
                  · as_aux_lemma =>
                      subst h0
                      have hl1 : ((wc.alloc (.cells #[] 9)).drew).ownsRow wc.heap.size 9 1 (.slice (some ⟨wc.heap.size, 0, none⟩) 0 0) 0 [] := row_fr (World.ownsRow_lit (base := wc.heap.size) (e := 9) (size := 1) wc #[] 0 (Nat.le_refl _) (Nat.zero_le _) rfl) (Fr.drew _)
                      have HL1 := Lib.hid hl1
                      have HLEN : Hid ((strs all).length = all.length * 1) := Lib.hid (by simp [strs])
                      have HONE : Hid (∀ u ∈ strs all, u.oneCell' = true) := Lib.hid (fun u hu => by
                        obtain ⟨z, _, rfl⟩ := List.mem_map.1 hu
                        rfl)
                      have HCC : Hid (∀ w', Fr wc w' → ∀ j u, (strs all)[j]? = some u → w'.cell? ((⟨ab, 0, none⟩ : Addr).add j) = some u) := Lib.hid (fun w' hf j u hu => by
                        have hj : j < all.length := by
                          rcases Nat.lt_or_ge j all.length with h | h
                          · exact h
                          · rw [List.getElem?_eq_none (by simp [strs]; omega)] at hu; cases hu
                        rw [addr_at, ← hu]
                        rw [hf.cell (hcc j hj)]
                        simp [strs, hj])
                      have hac' := hac
                      clear hl1 hcc
                      go_wp2_with fail
                      go_region_law ((first | (refine step_append_own (w := (wc.alloc (.cells #[] 9)).drew) (op := ⟨some 80, _, _, _, _, _⟩) (by rfl) (.tmp 78) (.tmp 79) 46 (by rfl) wc.heap.size 9 i0 (.string (S [])) 1 16 Tryd.underlying46 HI.out hz0 hz1 hz2 rfl (by decide) (.slice (some ⟨wc.heap.size, 0, none⟩) 0 0) 0 [] (by rfl) HL1.out ⟨ab, 0, none⟩ all.length ac (strs all) (by rfl) HLEN.out (HCC.out _ ((Fr.alloc wc (.cells #[] 9)).trans (Fr.drew _))) HONE.out (by unfold maxLen; omega) (by omega) (by simp <;> omega) ?_; (intro v1 w1 hown1 hgr1; have HO1 := Lib.hid hown1; have HF1 := Lib.hid (fr_row ((Fr.alloc wc (.cells #[] 9)).trans (Fr.drew _)) HL1.out (Nat.le_refl _) hgr1); have e4 := HE1.out _ HF1.out; clear hown1 hgr1)) | (refine step_append_own (w := ((wc.alloc (.cells #[.string (S a.l)] 9)).alloc (.cells #[] 9)).drew) (op := ⟨some 80, _, _, _, _, _⟩) (by rfl) (.tmp 78) (.tmp 79) 46 (by rfl) wc.heap.size 9 i0 (.string (S [])) 1 16 Tryd.underlying46 HI.out hz0 hz1 hz2 rfl (by decide) (.slice (some ⟨wc.heap.size + 1, 0, none⟩) 0 0) 0 [] (by rfl) HLB.out ⟨ab, 0, none⟩ all.length ac (strs all) (by rfl) HLEN.out (HCC.out _ ((Fr.alloc wc (.cells #[.string (S a.l)] 9)).trans ((Fr.alloc _ (.cells #[] 9)).trans (Fr.drew _)))) HONE.out (by unfold maxLen; omega) (by omega) (by simp <;> omega) ?_; (intro v1 w1 hown1 hgr1; have HO1 := Lib.hid hown1; have HF1 := Lib.hid (fr_row ((Fr.alloc wc (.cells #[.string (S a.l)] 9)).trans ((Fr.alloc _ (.cells #[] 9)).trans (Fr.drew _))) HLB.out (Nat.le_refl _) hgr1); have e4 := HE1.out _ HF1.out; have HXB1 := Lib.hid ((hgr1.block wc.heap.size (by simp <;> omega) (by simp [Value.ownBlock])).trans HXB.out); clear hown1 hgr1)) | (refine step_append_own (w := ((wc.alloc (.cells #[] 9)).alloc (.cells #[.string (S a.l)] 9)).drew) (op := ⟨some 80, _, _, _, _, _⟩) (by rfl) (.tmp 78) (.tmp 79) 46 (by rfl) wc.heap.size 9 i0 (.string (S [])) 1 16 Tryd.underlying46 HI.out hz0 hz1 hz2 rfl (by decide) (.slice (some ⟨wc.heap.size, 0, none⟩) 0 0) 0 [] (by rfl) HLA.out ⟨ab, 0, none⟩ all.length ac (strs all) (by rfl) HLEN.out (HCC.out _ ((Fr.alloc wc (.cells #[] 9)).trans ((Fr.alloc _ (.cells #[.string (S a.l)] 9)).trans (Fr.drew _)))) HONE.out (by unfold maxLen; omega) (by omega) (by simp <;> omega) ?_; (intro v1 w1 hown1 hgr1; have HO1 := Lib.hid hown1; have HF1 := Lib.hid (fr_row ((Fr.alloc wc (.cells #[] 9)).trans ((Fr.alloc _ (.cells #[.string (S a.l)] 9)).trans (Fr.drew _))) HLA.out (Nat.le_refl _) hgr1); have e4 := HE1.out _ HF1.out; have HXA1 := Lib.hid ((hgr1.block (wc.heap.size + 1) (by simp) (by simp [Value.ownBlock])).trans HXA.out); clear hown1 hgr1)) | (refine step_append_own (w := w1.alloc (.cells #[.string (S a.l)] 9)) (op := ⟨some 84, _, _, _, _, _⟩) (by rfl) (.tmp 80) (.tmp 83) 46 (by rfl) wc.heap.size 9 i0 (.string (S [])) 1 16 Tryd.underlying46 HI.out hz0 hz1 hz2 rfl (by decide) v1 (0 + all.length) ([] ++ strs all) (by rfl) (row_fr HO1.out (Fr.alloc w1 (.cells #[.string (S a.l)] 9))) ⟨w1.heap.size, 0, none⟩ 1 1 [.string (S a.l)] (by rfl) (by rfl) (World.news_of_block (heap_alloc_new w1 (.cells #[.string (S a.l)] 9))) (by simp [Value.oneCell']) (by unfold maxLen; omega) (by omega) (by have := HF1.out.size; simp <;> omega) ?_; (intro v2 w2 hown2 hgr2; have HO2 := Lib.hid hown2; have HF2' := Lib.hid (fr_row (HF1.out.trans (Fr.alloc w1 (.cells #[.string (S a.l)] 9))) (row_fr HO1.out (Fr.alloc w1 (.cells #[.string (S a.l)] 9))) (Nat.le_refl _) hgr2); clear hown2 hgr2)) | (refine step_append_own (w := w1) (op := ⟨some 84, _, _, _, _, _⟩) (by rfl) (.tmp 80) (.tmp 83) 46 (by rfl) wc.heap.size 9 i0 (.string (S [])) 1 16 Tryd.underlying46 HI.out hz0 hz1 hz2 rfl (by decide) v1 (0 + all.length) ([] ++ strs all) (by rfl) HO1.out ⟨wc.heap.size, 0, none⟩ 1 1 [.string (S a.l)] (by rfl) (by rfl) (World.news_of_block HXB1.out) (by simp [Value.oneCell']) (by unfold maxLen; omega) (by omega) (by have := HF1.out.size; omega) ?_; (intro v2 w2 hown2 hgr2; have HO2 := Lib.hid hown2; have HF2' := Lib.hid (fr_row HF1.out HO1.out (Nat.le_refl _) hgr2); clear hown2 hgr2)) | (refine step_append_own (w := w1) (op := ⟨some 84, _, _, _, _, _⟩) (by rfl) (.tmp 80) (.tmp 83) 46 (by rfl) wc.heap.size 9 i0 (.string (S [])) 1 16 Tryd.underlying46 HI.out hz0 hz1 hz2 rfl (by decide) v1 (0 + all.length) ([] ++ strs all) (by rfl) HO1.out ⟨wc.heap.size + 1, 0, none⟩ 1 1 [.string (S a.l)] (by rfl) (by rfl) (World.news_of_block HXA1.out) (by simp [Value.oneCell']) (by unfold maxLen; omega) (by omega) (by have := HF1.out.size; omega) ?_; (intro v2 w2 hown2 hgr2; have HO2 := Lib.hid hown2; have HF2' := Lib.hid (fr_row HF1.out HO1.out (Nat.le_refl _) hgr2); clear hown2 hgr2))))
                      all_goals (go_wp2_with fail; go_meet; exact ⟨HF2', row_conv HO2⟩)
                case rest =>
                  obtain ⟨hfx, hrx⟩ := hcut
                  have HNx := Lib.hid (HNc.out.step (.fr hfx.out))
                  have HSx := Lib.hid (HSc.out.step (.fr hfx.out))
                  have HBx := Lib.hid (HBc.out.step (.fr hfx.out))
                  have HFx := Lib.hid (HFc.out.step (.fr hfx.out))
                  have HJx := Lib.hid (HJc.out.fr hfx.out)
                  have HAx := Lib.hid (Mine.fresh HNc.out HJc.out.bound hrx.out)
                  have HAge := Lib.hid (fun p hp => (hrx.out.lt p hp).1)
                  have e5 := hfx.out.cell HE1'.out
                  clear e1 hfx hrx HNc HSc HBc HFc HJc HAc
                  rcases HD.out with ⟨rfl, rfl, _⟩ | ⟨rfl, rfl, _⟩ | ⟨h, _⟩
                  · as_aux_lemma =>
                      go_wp2_with (refine wpList_append_wanted (op := ⟨some 93, _, _, _, _, _⟩) (by rfl) (.tmp 89) (.tmp 92) 46 rfl w2.heap.size 9 i0 (.string (S [])) 1 16 Tryd.underlying46 HI.out hz0 hz1 hz2 rfl (by decide) _ _ _ rfl (HBx.out.row.alloc _) ⟨wc.heap.size, 0, none⟩ 1 1 [.string (S a.l)] rfl rfl (World.news_of_block (cs := #[.string (S a.l)]) (t := 9) (fr := (0, 0)) (heap_alloc_new wc _)) (by simp [Value.oneCell']) (by decide) (by unfold maxLen; omega) (by omega) (by have := HNx.out.fr.size; simp; omega) (wc.heap.size + 1) (by simp) ?_)
                      intro g cap w4 hown4 hgr4 hg4 hglt4
                      obtain ⟨n1, n2, n3, n4⟩ := HBx.out.appended HNx.out HJx.out.bound hown4 hgr4 hg4
                      have hoth := HBx.out.other hgr4
                      have hAk : ∀ p, _ → w4.heap[p]? = wc.heap[p]? := fun p hp => hoth p (HAx.out.row.lt p hp).2 (fun e => by
                        have q1 := HBlt.out p e
                        have q2 := HAge.out p hp
                        have q3 := HBC.out
                        have q4 := HAB.out
                        omega)
                      have hFk : ∀ p, after.ownBlock = some p → w4.heap[p]? = wc.heap[p]? := fun p hp => hoth p (HFx.out.row.lt p hp).2 (fun e => by
                        have q1 := HBlt.out p e
                        have q2 := HFge.out p hp
                        have q4 := HAB.out
                        omega)
                      have hSk : ∀ p, _ → w4.heap[p]? = wc.heap[p]? := fun p hp => hoth p (HSx.out.row.lt p hp).2 (fun e => by
                        have q1 := HBge.out p e
                        have q2 := HSlt.out p hp
                        omega)
                      have HN4 := Lib.hid n1
                      have HB4 := Lib.hid n2
                      have HA4 := Lib.hid (HAx.out.keep hAk)
                      have HS4 := Lib.hid (HSx.out.keep hSk)
                      have HF4 := Lib.hid (HFx.out.keep hFk)
                      have HJ4 := Lib.hid (HJx.out.keep n3 n4)
                      clear n1 n2 n3 n4 hoth hAk hFk hSk hown4 hgr4 hg4 hglt4 e5
                      have hs0 := sameTexts_any after (.slice (some ⟨g, 0, none⟩) (rs.length + 1) cap) (rs ++ [a.l]) w4 HF4.out.ro.row.isSl HB4.out.ro.row.isSl (by simp; omega)
                      have H0 := Lib.hid hs0
                      clear hs0
                      go_wp2_with fail
                      refine H0.out.mono ?_
                      rintro e wd ⟨rfl, hfd⟩
                      have HNd := Lib.hid (HN4.out.step (.fr hfd))
                      have HAd := Lib.hid (HA4.out.step (.fr hfd))
                      have HSd := Lib.hid (HS4.out.step (.fr hfd))
                      have HXd : Hid (LO wd O' B (.pointer (some ⟨J, 0, none⟩)) (all ++ [a.l]) sure (k + 1)) := Lib.hid (.inr ⟨J, _, _, rfl, HJ4.out.fr hfd⟩)
                      clear hfd H0 HN4 HA4 HS4 HJ4 HF4 HB4
                      go_wp2_with fail
                      go_roundw
                      case rel => exact ⟨k + 1, O', all ++ [a.l], sure, by omega, by go_num, HNd, HXd, HAd, HSd⟩
                      case measure => simp [intOf]; omega
                  · as_aux_lemma =>
                      have hs8 := sameTexts_any after before rs' wc HFx.out.ro.row.isSl HBx.out.ro.row.isSl (by omega)
                      have H8 := Lib.hid hs8
                      clear hs8
                      go_wp2_with fail
                      refine H8.out.mono ?_
                      rintro e wd ⟨rfl, hfd⟩
                      have HNd := Lib.hid (HNx.out.step (.fr hfd))
                      have HAd := Lib.hid (HAx.out.step (.fr hfd))
                      have HSd := Lib.hid (HSx.out.step (.fr hfd))
                      have HXd : Hid (LO wd O' B (.pointer (some ⟨J, 0, none⟩)) (all ++ [a.l]) sure (k + 1)) := Lib.hid (.inr ⟨J, _, _, rfl, HJx.out.fr hfd⟩)
                      clear hfd H8 HNx HAx HSx HJx
                      go_wp2_with fail
                      go_roundw
                      case rel => exact ⟨k + 1, O', all ++ [a.l], sure, by omega, by go_num, HNd, HXd, HAd, HSd⟩
                      case measure => simp [intOf]; omega
                  · exact absurd h HE7.out
        by_cases z1 : kd = 1
        · as_aux_lemma =>
            subst z1
            rcases HX.out with ⟨rfl, hd⟩ | ⟨J, rs, br, rfl, hj⟩
            · clear hd
              go_wp2_with fail
              go_roundw
              case rel => exact ⟨k + 1, O, all, sure, by omega, by go_num, HN, Lib.hid (LO.mono HX.out (by omega)), HA, HS⟩
              case measure => simp [intOf]; omega
            · have HJ := Lib.hid hj
              clear hj
              go_wp2_with fail
              refine (lj_sync HJ.out).mono ?_
              rintro e wa ⟨E, O', rfl, hst, hcase⟩
              have HNa := Lib.hid (HN.out.step hst)
              have HAa := Lib.hid (HA.out.step hst)
              have HSa := Lib.hid (HS.out.step hst)
              clear hst HX HJ
              rcases hcase with ⟨rfl, hj⟩ | ⟨hE, hj⟩
              · have HJa := Lib.hid hj
                have hcj := hj.cnt
                obtain ⟨rv, hjn⟩ := hj.jn
                clear hj
                go_wp2_with fail
                refine (all_any hjn (by omega)).mono ?_
                rintro e wb ⟨got, rfl, hrow, hfb⟩
                have HSb := Lib.hid (Mine.fresh HNa.out HJa.out.bound hrow)
                have HNb := Lib.hid (HNa.out.step (.fr hfb))
                have HAb := Lib.hid (HAa.out.step (.fr hfb))
                have HXb : Hid (LO wb O' B (.pointer (some ⟨J, 0, none⟩)) all rs k) := Lib.hid (.inr ⟨J, rs, false, rfl, HJa.out.fr hfb⟩)
                clear hrow hfb hjn HJa HNa HAa HSa
                go_wp2_with fail
                go_roundw
                case rel => exact ⟨k + 1, O', all, rs, by omega, by go_num, HNb, Lib.hid (LO.mono HXb.out (by omega)), HAb, HSb⟩
                case measure => simp [intOf]; omega
              · have hEb : (E == 0) = false := beq_eq_false_iff_ne.2 hE
                have HXa : Hid (LO wa O' B (.pointer (some ⟨J, 0, none⟩)) all sure k) := Lib.hid (.inr ⟨J, rs, true, rfl, hj⟩)
                clear hj
                go_wp2_with fail
                go_roundw
                case rel => exact ⟨k + 1, O', all, sure, by omega, by go_num, HNa, Lib.hid (LO.mono HXa.out (by omega)), HAa, HSa⟩
                case measure => simp [intOf]; omega
        by_cases z2 : kd = 2
        · as_aux_lemma =>
            subst z2
            have hn9 := HAT.out.n
            go_wp2_with fail
            refine (lo_lose HX.out a.n hn9).mono ?_
            rintro e wa ⟨O', rfl, hst, hx⟩
            have HNa := Lib.hid (HN.out.step hst)
            have HAa := Lib.hid (HA.out.step hst)
            have HSa := Lib.hid (HS.out.step hst)
            have HXa := Lib.hid hx
            clear hst hx HX HN HA HS
            go_wp2_with fail
            go_roundw
            case rel => exact ⟨k + 1, O', all, sure, by omega, by go_num, HNa, Lib.hid (LO.mono HXa.out (by omega)), HAa, HSa⟩
            case measure => simp [intOf]; omega
        by_cases z3 : kd = 3
        · as_aux_lemma =>
            subst z3
            have hn9 := HAT.out.n
            go_wp2_with fail
            refine (lo_arm HX.out a.n hn9 (.slice ka a.ks.length kc) a.ks (by have := HI0.out.fr (HF2.out.trans HN.out.fr); rw [HKS.out] at this; exact this) (by omega)).mono ?_
            rintro e wa ⟨O', rfl, hst, hx⟩
            have HNa := Lib.hid (HN.out.step hst)
            have HAa := Lib.hid (HA.out.step hst)
            have HSa := Lib.hid (HS.out.step hst)
            have HXa := Lib.hid hx
            clear hst hx HX HN HA HS
            go_wp2_with fail
            go_roundw
            case rel => exact ⟨k + 1, O', all, sure, by omega, by go_num, HNa, Lib.hid (LO.mono HXa.out (by omega)), HAa, HSa⟩
            case measure => simp [intOf]; omega
        by_cases z4 : kd = 4
        · as_aux_lemma =>
            subst z4
            obtain ⟨Od, sd, hla, hdk, hsub, hcntA, hsmS⟩ := HX.out.disk
            have HNd := Lib.hid (so_sub HN.out hsub)
            have HAd := Lib.hid (HA.out.sub hsub)
            have HSd := Lib.hid (HS.out.sub hsub)
            have hcr := dk_crash (P := fun s => LA s 3 all sure) hdk hla.good.inv a.ks (.slice ka a.ks.length kc) (by have := HI0.out.fr (HF2.out.trans HN.out.fr); rw [HKS.out] at this; exact this) (HNd.out.off (W0 := W) HF2.out.size (by have := HI0.out; rw [HKS.out] at this; exact this)) (la_down (hla.crash a.ks) false)
            have HC := Lib.hid hcr
            clear hcr hla hdk hsub HX HN HA HS
            go_wp2_with fail
            refine HC.out.mono ?_
            rintro e wa ⟨O1, rfl, hst, hsx⟩
            have HN1 := Lib.hid (HNd.out.step hst)
            have HA1 := Lib.hid (HAd.out.step hst)
            have HS1 := Lib.hid (HSd.out.step hst)
            clear hst HNd HAd HSd HC
            go_wp2_with fail
            refine (sx_start hsx).mono ?_
            rintro e wb ⟨O2, rfl, hst, sb, hpb, hdb⟩
            have HN2 := Lib.hid (HN1.out.step hst)
            have HA2 := Lib.hid (HA1.out.step hst)
            have HS2 := Lib.hid (HS1.out.step hst)
            clear hst HN1 HA1 HS1
            go_wp2_with fail
            refine (la_open (n := k) hdb hpb hcntA hsmS).mono ?_
            rintro e wc ⟨O3, hst, ⟨E, hE, rfl, hld, hnq⟩ | ⟨J3, qs, rfl, ⟨ps, hps⟩, ⟨ps2, hps2⟩, hj3⟩⟩
            · have HN3 := Lib.hid (HN2.out.step hst)
              have HA3 := Lib.hid (HA2.out.step hst)
              have HS3 := Lib.hid (HS2.out.step hst)
              have HX3 : Hid (LO wc O3 B (.pointer none) all sure k) := Lib.hid (.inl ⟨rfl, hld⟩)
              clear hst hld hnq hpb hdb HN2 HA2 HS2
              go_wp2_with fail
              refine (disky_yes E wc hE).mono ?_
              rintro e wd ⟨rfl, rfl⟩
              go_wp2_with fail
              go_roundw
              case rel => exact ⟨k + 1, O3, all, sure, by omega, by go_num, HN3, Lib.hid (LO.mono HX3.out (by omega)), HA3, HS3⟩
              case measure => simp [intOf]; omega
            · have HN3 := Lib.hid (HN2.out.step hst)
              have HA3 := Lib.hid (HA2.out.step hst)
              have HS3 := Lib.hid (HS2.out.step hst)
              have HJ3 := Lib.hid hj3
              have hc3 := hj3.cnt.1
              have HPS := Lib.hid hps
              have HPS2 := Lib.hid hps2
              obtain ⟨rv3, hjn3⟩ := hj3.jn
              clear hst hj3 hpb hdb HN2 HA2 HS2 hps hps2
              go_wp2_with fail
              refine (all_any hjn3 (by omega)).mono ?_
              rintro e wd ⟨now, rfl, hrow, hfd⟩
              have HM4 := Lib.hid (Mine.fresh HN3.out HJ3.out.bound hrow)
              have HN4 := Lib.hid (HN3.out.step (.fr hfd))
              have HA4 := Lib.hid (HA3.out.step (.fr hfd))
              have HS4 := Lib.hid (HS3.out.step (.fr hfd))
              have HJ4 := Lib.hid (HJ3.out.fr hfd)
              clear hrow hfd hjn3 HN3 HA3 HS3 HJ3
              have hb1 := begins_any _ now qs ps wd (by have h := HA4.out.ro.row; rw [HPS.out] at h; exact h) HM4.out.ro.row.isSl (by rw [← HPS.out]; omega)
              have HB1 := Lib.hid hb1
              clear hb1
              go_wp2_with fail
              refine HB1.out.mono ?_
              rintro e we ⟨rfl, hfe⟩
              have HM5 := Lib.hid (HM4.out.step (.fr hfe))
              have HN5 := Lib.hid (HN4.out.step (.fr hfe))
              have HS5 := Lib.hid (HS4.out.step (.fr hfe))
              have HJ5 := Lib.hid (HJ4.out.fr hfe)
              clear hfe HB1 HM4 HN4 HA4 HS4 HJ4
              have hb2 := begins_any now _ sure ps2 we (by have h := HM5.out.ro.row; rw [HPS2.out] at h; exact h) HS5.out.ro.row.isSl (by rw [← HPS2.out]; omega)
              have HB2 := Lib.hid hb2
              clear hb2
              go_wp2_with fail
              refine HB2.out.mono ?_
              rintro e wf ⟨rfl, hff⟩
              have HM6 := Lib.hid (HM5.out.step (.fr hff))
              have HN6 := Lib.hid (HN5.out.step (.fr hff))
              have HX6 : Hid (LO wf O3 B (.pointer (some ⟨J3, 0, none⟩)) qs qs k) := Lib.hid (.inr ⟨J3, qs, false, rfl, HJ5.out.fr hff⟩)
              clear hff HB2 HM5 HN5 HS5 HJ5
              go_wp2_with fail
              go_roundw
              case rel => exact ⟨k + 1, O3, qs, qs, by omega, by go_num, HN6, Lib.hid (LO.mono HX6.out (by omega)), HM6, HM6⟩
              case measure => simp [intOf]; omega
        by_cases z5 : kd = 5
        · as_aux_lemma =>
            subst z5
            obtain ⟨Od, sd, hla, hdk, hsub, hcntA, hsmS⟩ := HX.out.disk
            have HNd := Lib.hid (so_sub HN.out hsub)
            have HAd := Lib.hid (HA.out.sub hsub)
            have HSd := Lib.hid (HS.out.sub hsub)
            have hsx : SX wo Od B (fun s => LA s 3 all sure) := ⟨sd, la_down hla false, hdk⟩
            have HN1 := HNd
            have HA1 := HAd
            have HS1 := HSd
            clear hla hdk hsub HX HN HA HS HNd HAd HSd
            go_wp2_with fail
            refine (sx_start hsx).mono ?_
            rintro e wb ⟨O2, rfl, hst, sb, hpb, hdb⟩
            have HN2 := Lib.hid (HN1.out.step hst)
            have HA2 := Lib.hid (HA1.out.step hst)
            have HS2 := Lib.hid (HS1.out.step hst)
            clear hst HN1 HA1 HS1
            go_wp2_with fail
            refine (la_open (n := k) hdb hpb hcntA hsmS).mono ?_
            rintro e wc ⟨O3, hst, ⟨E, hE, rfl, hld, hnq⟩ | ⟨J3, qs, rfl, ⟨ps, hps⟩, ⟨ps2, hps2⟩, hj3⟩⟩
            · have HN3 := Lib.hid (HN2.out.step hst)
              have HA3 := Lib.hid (HA2.out.step hst)
              have HS3 := Lib.hid (HS2.out.step hst)
              have HX3 : Hid (LO wc O3 B (.pointer none) all sure k) := Lib.hid (.inl ⟨rfl, hld⟩)
              clear hst hld hnq hpb hdb HN2 HA2 HS2
              go_wp2_with fail
              refine (disky_yes E wc hE).mono ?_
              rintro e wd ⟨rfl, rfl⟩
              go_wp2_with fail
              go_roundw
              case rel => exact ⟨k + 1, O3, all, sure, by omega, by go_num, HN3, Lib.hid (LO.mono HX3.out (by omega)), HA3, HS3⟩
              case measure => simp [intOf]; omega
            · have HN3 := Lib.hid (HN2.out.step hst)
              have HA3 := Lib.hid (HA2.out.step hst)
              have HS3 := Lib.hid (HS2.out.step hst)
              have HJ3 := Lib.hid hj3
              have hc3 := hj3.cnt.1
              have HPS := Lib.hid hps
              have HPS2 := Lib.hid hps2
              obtain ⟨rv3, hjn3⟩ := hj3.jn
              clear hst hj3 hpb hdb HN2 HA2 HS2 hps hps2
              go_wp2_with fail
              refine (all_any hjn3 (by omega)).mono ?_
              rintro e wd ⟨now, rfl, hrow, hfd⟩
              have HM4 := Lib.hid (Mine.fresh HN3.out HJ3.out.bound hrow)
              have HN4 := Lib.hid (HN3.out.step (.fr hfd))
              have HA4 := Lib.hid (HA3.out.step (.fr hfd))
              have HS4 := Lib.hid (HS3.out.step (.fr hfd))
              have HJ4 := Lib.hid (HJ3.out.fr hfd)
              clear hrow hfd hjn3 HN3 HA3 HS3 HJ3
              have hb1 := begins_any _ now qs ps wd (by have h := HA4.out.ro.row; rw [HPS.out] at h; exact h) HM4.out.ro.row.isSl (by rw [← HPS.out]; omega)
              have HB1 := Lib.hid hb1
              clear hb1
              go_wp2_with fail
              refine HB1.out.mono ?_
              rintro e we ⟨rfl, hfe⟩
              have HM5 := Lib.hid (HM4.out.step (.fr hfe))
              have HN5 := Lib.hid (HN4.out.step (.fr hfe))
              have HS5 := Lib.hid (HS4.out.step (.fr hfe))
              have HJ5 := Lib.hid (HJ4.out.fr hfe)
              clear hfe HB1 HM4 HN4 HA4 HS4 HJ4
              have hb2 := begins_any now _ sure ps2 we (by have h := HM5.out.ro.row; rw [HPS2.out] at h; exact h) HS5.out.ro.row.isSl (by rw [← HPS2.out]; omega)
              have HB2 := Lib.hid hb2
              clear hb2
              go_wp2_with fail
              refine HB2.out.mono ?_
              rintro e wf ⟨rfl, hff⟩
              have HM6 := Lib.hid (HM5.out.step (.fr hff))
              have HN6 := Lib.hid (HN5.out.step (.fr hff))
              have HX6 : Hid (LO wf O3 B (.pointer (some ⟨J3, 0, none⟩)) qs qs k) := Lib.hid (.inr ⟨J3, qs, false, rfl, HJ5.out.fr hff⟩)
              clear hff HB2 HM5 HN5 HS5 HJ5
              go_wp2_with fail
              go_roundw
              case rel => exact ⟨k + 1, O3, qs, qs, by omega, by go_num, HN6, Lib.hid (LO.mono HX6.out (by omega)), HM6, HM6⟩
              case measure => simp [intOf]; omega
        go_wp2_with fail
        go_roundw
        case rel => exact ⟨k + 1, O, all, sure, by omega, by go_num, HN, Lib.hid (LO.mono HX.out (by omega)), HA, HS⟩
        case measure => simp [intOf]; omega
      · as_aux_lemma =>
          have hko : k = o.length := by omega
          obtain ⟨T, hT⟩ : ∃ T, T = wr.heap.size := ⟨_, rfl⟩
          obtain ⟨wo, hwo⟩ : ∃ wo, wo = wr.alloc (.cells #[.int .i64 4, .string ⟨#[]⟩, .int .i64 0, .slice a1 k1.length c1] 38) := ⟨_, rfl⟩
          have hfo : Fr wr wo := hwo ▸ Fr.alloc wr _
          have hTh : wo.heap[T]? = some (.cells #[.int .i64 4, .string ⟨#[]⟩, .int .i64 0, .slice a1 k1.length c1] 38 (0, 0)) := by rw [hwo, hT]; exact heap_alloc_new wr _
          have hTO : ¬ O T := fun h => by have := HX.out.bound T h; omega
          have HN := Lib.hid (HN.out.step (.fr hfo))
          have HX := Lib.hid (HX.out.fr hfo)
          have HA := Lib.hid (HA.out.step (.fr hfo))
          have HS := Lib.hid (HS.out.step (.fr hfo))
          obtain ⟨Od, sd, hla, hdk, hsub, hcntA, hsmS⟩ := HX.out.disk
          have HNd := Lib.hid (so_sub HN.out hsub)
          have HAd := Lib.hid (HA.out.sub hsub)
          have HSd := Lib.hid (HS.out.sub hsub)
          have HTd : Hid (¬ Od T) := Lib.hid (fun h => hTO (hsub T h))
          have hlose := lose_any Od B 0 sd wo hdk
          have HL := Lib.hid hlose
          have HLA2 := Lib.hid hla
          have HTH := Lib.hid hTh
          have HWO := Lib.hid hwo
          have HTT := Lib.hid hT
          clear hlose hla hdk hsub hTO hTh hfo HX HN HA HS hend hlt
          go_upto_region 18 with fail
          rw [← hwo, ← hT]
          clear hwo hT
          go_wp2_with fail
          refine HL.out.mono ?_
          rintro e wl ⟨rfl, Ol, hdl, gl, ol⟩
          have hst : Step Od wo wl Ol := ⟨gl, ol⟩
          have HNl := Lib.hid (HNd.out.step hst)
          have HAl := Lib.hid (HAd.out.step hst)
          have HSl := Lib.hid (HSd.out.step hst)
          have HTl := Lib.hid ((hst.own.block T (Array.getElem?_eq_some_iff.1 HTH.out).1 HTd.out).trans HTH.out)
          have HTol : Hid (¬ Ol T) := Lib.hid (fun h => by
            rcases gl T h with h1 | h1
            · exact HTd.out h1
            · have := (Array.getElem?_eq_some_iff.1 HTH.out).1; omega)
          have harm := arm_any Ol B 0 (.slice none 0 0) [] _ wl hdl (.inl ⟨rfl, _, _, rfl⟩) (by simp)
          have HR := Lib.hid harm
          clear hst gl ol hdl harm HL HNd HAd HSd
          go_wp2_with fail
          refine HR.out.mono ?_
          rintro e wm ⟨rfl, Om, hdm, gm, om⟩
          have hst : Step Ol wl wm Om := ⟨gm, om⟩
          have HNm := Lib.hid (HNl.out.step hst)
          have HAm := Lib.hid (HAl.out.step hst)
          have HSm := Lib.hid (HSl.out.step hst)
          have hTm := (hst.own.block T (Array.getElem?_eq_some_iff.1 HTl.out).1 HTol.out).trans HTl.out
          have d0 : wm.cell? ⟨T, 0, none⟩ = some (.int .i64 4) := cellOf hTm rfl
          have d3 : wm.cell? ⟨T, 3, none⟩ = some (.slice a1 k1.length c1) := cellOf hTm rfl
          have hla3 : LA (armS { sd with lost := (0 : Int).toNat } 0 []) 3 all sure := la_arm (la_lost HLA2.out _ (by decide)) 0 (by decide) [] (by simp)
          have hcr := dk_crash (P := fun s => LA s 3 all sure ∧ s.calls = 0 ∧ s.lost = 0 ∧ s.down = false) hdm hla3.good.inv k1 (.slice a1 k1.length c1) (H1.out.fr (HF2.out.trans HNm.out.fr)) (HNm.out.off (W0 := W) HF2.out.size H1.out) ⟨la_down (hla3.crash k1) false, crash_calls rfl k1, (crash_lost _ k1).trans rfl, rfl⟩
          have HC := Lib.hid hcr
          clear hst gm om hdm hcr hla3 hTm HNl HAl HSl HR
          go_wp2_with fail
          refine HC.out.mono ?_
          rintro e wa ⟨O1, rfl, hst, hsx⟩
          have HN1 := Lib.hid (HNm.out.step hst)
          have HA1 := Lib.hid (HAm.out.step hst)
          have HS1 := Lib.hid (HSm.out.step hst)
          clear hst HNm HAm HSm HC d0 d3
          go_wp2_with fail
          refine (sx_start hsx).mono ?_
          rintro e wb ⟨O2, rfl, hst, sb, hpb, hdb⟩
          have HN2 := Lib.hid (HN1.out.step hst)
          have HA2 := Lib.hid (HA1.out.step hst)
          have HS2 := Lib.hid (HS1.out.step hst)
          clear hst HN1 HA1 HS1
          go_wp2_with fail
          refine (la_open (n := k) hdb hpb.1 hcntA hsmS).mono ?_
          rintro e wc ⟨O3, hst, ⟨E, hE, rfl, hld, hnq⟩ | ⟨J3, qs, rfl, ⟨ps, hps⟩, ⟨ps2, hps2⟩, hj3⟩⟩
          · exact absurd ⟨hpb.2.2.2, hpb.2.1, hpb.2.2.1⟩ hnq
          · have HN3 := Lib.hid (HN2.out.step hst)
            have HA3 := Lib.hid (HA2.out.step hst)
            have HS3 := Lib.hid (HS2.out.step hst)
            have HJ3 := Lib.hid hj3
            have hc3 := hj3.cnt.1
            have HPS := Lib.hid hps
            have HPS2 := Lib.hid hps2
            obtain ⟨rv3, hjn3⟩ := hj3.jn
            clear hst hj3 hpb hdb HN2 HA2 HS2 hps hps2
            go_wp2_with fail
            refine (all_any hjn3 (by omega)).mono ?_
            rintro e wd ⟨now, rfl, hrow, hfd⟩
            have HM4 := Lib.hid (Mine.fresh HN3.out HJ3.out.bound hrow)
            have HN4 := Lib.hid (HN3.out.step (.fr hfd))
            have HA4 := Lib.hid (HA3.out.step (.fr hfd))
            have HS4 := Lib.hid (HS3.out.step (.fr hfd))
            have HJ4 := Lib.hid (HJ3.out.fr hfd)
            clear hrow hfd hjn3 HN3 HA3 HS3 HJ3
            have hb1 := begins_any _ now qs ps wd (by have h := HA4.out.ro.row; rw [HPS.out] at h; exact h) HM4.out.ro.row.isSl (by rw [← HPS.out]; omega)
            have HB1 := Lib.hid hb1
            clear hb1
            go_wp2_with fail
            refine HB1.out.mono ?_
            rintro e we ⟨rfl, hfe⟩
            have HM5 := Lib.hid (HM4.out.step (.fr hfe))
            have HN5 := Lib.hid (HN4.out.step (.fr hfe))
            have HS5 := Lib.hid (HS4.out.step (.fr hfe))
            have HJ5 := Lib.hid (HJ4.out.fr hfe)
            clear hfe HB1 HM4 HN4 HA4 HS4 HJ4
            have hb2 := begins_any now _ sure ps2 we (by have h := HM5.out.ro.row; rw [HPS2.out] at h; exact h) HS5.out.ro.row.isSl (by rw [← HPS2.out]; omega)
            have HB2 := Lib.hid hb2
            clear hb2
            go_wp2_with fail
            refine HB2.out.mono ?_
            rintro e wf ⟨rfl, hff⟩
            have HM6 := Lib.hid (HM5.out.step (.fr hff))
            have HN6 := Lib.hid (HN5.out.step (.fr hff))
            have HX6 : Hid (LO wf O3 B (.pointer (some ⟨J3, 0, none⟩)) qs qs k) := Lib.hid (.inr ⟨J3, qs, false, rfl, HJ5.out.fr hff⟩)
            clear hff HB2 HM5 HN5 HS5 HJ5
            go_wp2_with fail
            go_roundw
            case rel => exact ⟨k + 1, O3, qs, qs, by omega, by go_num, HN6, Lib.hid (LO.mono HX6.out (by omega)), HM6, HM6⟩
            case measure => simp [intOf]; omega
end Go.Proofs.YtgncliigmjeffaaDoor
