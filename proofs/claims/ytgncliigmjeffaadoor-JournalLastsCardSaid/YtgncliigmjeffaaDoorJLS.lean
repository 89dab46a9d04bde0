/-
  The law JournalStays, walked.
-/
import Derived.Test.YtgncliigmjeffaaDoorJu
import Derived.Deep.CutBlock
namespace Go.Proofs.YtgncliigmjeffaaDoor
open Go.RowKit

theorem Ints.lt {W : World} {v : Value} {ks : List Int} (h : Ints W v ks) (p : Nat) (h0 : ks ≠ []) (hp : v.ownBlock = some p) : p < W.heap.size := by
  rcases h with ⟨h, _⟩ | ⟨b, o, c, rfl, h⟩
  · exact absurd h h0
  · have hl : 0 < ks.length := List.length_pos_iff.2 h0
    obtain rfl : b = p := by simpa [Value.ownBlock] using hp
    exact World.block_lt_of_cell? W _ (h 0 hl)
theorem sd_new (w : World) : Calls Tryd.prog 10 #[] w fun e w' => ∃ B O, e = .returned (.pointer (some ⟨B, 0, none⟩)) ∧ SD w' O B 0 ∧ Step (fun _ => False) w w' O :=
  (new_any w).mono fun _ _ h => let ⟨B, h1, O, h2, h3, h4⟩ := h; ⟨B, O, h1, ⟨newS, ⟨good_new, rfl, rfl, Nat.le_refl _⟩, h2⟩, ⟨h3, h4⟩⟩
theorem SJ.bound {w : World} {O : Nat → Prop} {B J z : Nat} {rs : List (List UInt8)} {br : Bool} (h : SJ w O B J rs br z) : ∀ k, O k → k < w.heap.size := let ⟨_, h1⟩ := h; let ⟨_, _, h2⟩ := h1.jd; h2.bound
theorem SJ.count {w : World} {O : Nat → Prop} {B J z : Nat} {rs : List (List UInt8)} {br : Bool} (h : SJ w O B J rs br z) : rs.length * 3 ≤ z := let ⟨_, h1⟩ := h; Nat.le_trans (Jm.forms_count rs) h1.len
theorem New.off {W w : World} {O : Nat → Prop} (h : New W w O) {W0 : World} (hW : W0.heap.size ≤ W.heap.size) {v : Value} {ks : List Int} (hk : Ints W0 v ks) : ∀ p, ks ≠ [] → v.ownBlock = some p → ¬ O p := fun p h0 hp ho => by
  have h1 := hk.lt p h0 hp
  have h2 := h.up p ho
  omega
theorem opl_fr {w w' : World} {v : Value} {l : List OP} (h : Opl w v l) (hf : Fr w w') : Opl w' v l := by
  rcases h with h | ⟨b, o, c, e, h⟩
  · exact .inl h
  · exact .inr ⟨b, o, c, e, fun k hk => (h k hk).fr hf⟩
/-- A journal, or none. -/
def SO (w : World) (O : Nat → Prop) (B : Nat) (jv : Value) (z : Nat) : Prop := (jv = .pointer none ∧ SD w O B z) ∨ ∃ J rs br, jv = .pointer (some ⟨J, 0, none⟩) ∧ SJ w O B J rs br z
theorem so_sub {O Od : Nat → Prop} {W w : World} (h : New W w O) (hs : ∀ k, Od k → O k) : New W w Od := ⟨h.fr, fun k hk => h.up k (hs k hk)⟩

theorem SO.mono {w : World} {O : Nat → Prop} {B z z' : Nat} {jv : Value} (h : SO w O B jv z) (hz : z ≤ z') : SO w O B jv z' := by
  rcases h with ⟨h1, h⟩ | ⟨J, rs, br, h1, h⟩
  · exact .inl ⟨h1, h.mono hz⟩
  · exact .inr ⟨J, rs, br, h1, h.mono hz⟩
theorem so_lose {w : World} {O : Nat → Prop} {B z : Nat} {jv : Value} (h : SO w O B jv z) (n : Int) (hn : n ≤ 9223372036854775807) :
    Calls Tryd.prog 20 #[.pointer (some ⟨B, 0, none⟩), .int .i64 n] w fun e w' => ∃ O', e = .returned (.tuple #[]) ∧ Step O w w' O' ∧ SO w' O' B jv z := by
  rcases h with ⟨rfl, hd⟩ | ⟨J, rs, br, rfl, hj⟩
  · refine (sd_lose hd n hn).mono ?_
    rintro e w' ⟨O', h1, h2, h3⟩
    exact ⟨O', h1, h2, .inl ⟨rfl, h3⟩⟩
  · refine (sj_lose hj n hn).mono ?_
    rintro e w' ⟨O', h1, h2, h3⟩
    exact ⟨O', h1, h2, .inr ⟨J, rs, br, rfl, h3⟩⟩
theorem SO.sd {w : World} {O : Nat → Prop} {B z : Nat} {jv : Value} (h : SO w O B jv z) : ∃ Od s, Up s 0 z ∧ Dk w Od B s ∧ ∀ k, Od k → O k := by
  rcases h with ⟨_, s, h1, h2⟩ | ⟨J, rs, br, _, s, h1⟩
  · exact ⟨O, s, h1, h2, fun _ h => h⟩
  · obtain ⟨Od, rv, h2⟩ := h1.jd
    exact ⟨Od, s, h1.up, h2.dk, h2.sub⟩
theorem so_open {w : World} {O : Nat → Prop} {B z : Nat} (h : SD w O B z) :
    Calls Tryd.prog 12 #[.pointer (some ⟨B, 0, none⟩), .int .i64 0] w fun e w' => ∃ jv E O', e = .returned (.tuple #[jv, .int .i64 E]) ∧ Step O w w' O' ∧ SO w' O' B jv z := by
  refine (sd_open h).mono ?_
  rintro e w' ⟨O', h1, ⟨E, _, rfl, h2⟩ | ⟨J, rs, rfl, h2⟩⟩
  · exact ⟨_, E, O', rfl, h1, .inl ⟨rfl, h2⟩⟩
  · exact ⟨_, 0, O', rfl, h1, .inr ⟨J, rs, false, rfl, h2⟩⟩

theorem sl_at {w : World} {a : Option Addr} {n c : Nat} {l : List (List UInt8)} (h : IsSl w (.slice a n c) (l.map fun z => .string (S z))) (k : Nat) (hk : k < l.length) : ∃ b o, a = some ⟨b, o, none⟩ ∧ w.cell? ⟨b, o + k, none⟩ = some (.string (S l[k])) := by
  rcases sl_get h with ⟨rfl, _⟩ | ⟨b, o, c', e, h⟩
  · simp at hk
  · simp only [Value.slice.injEq] at e
    exact ⟨b, o, e.1, h k hk⟩
theorem JD.keep {w w' : World} {O : Nat → Prop} {B J : Nat} {s : RS} {f : Int} {rs : List (List UInt8)} {br : Bool} (h : JD w O B J s f rs br) (hs : w.heap.size ≤ w'.heap.size) (hk : ∀ k, O k → w'.heap[k]? = w.heap[k]?) : JD w' O B J s f rs br :=
  let ⟨Od, rv, h'⟩ := h
  ⟨Od, rv, h'.dk.frame hs (fun k hd => hk k (h'.sub k hd)), h'.jn.keep (hk J h'.oJ) (fun p hp => hk p (h'.oR p hp)), h'.sub, h'.oJ, h'.oR, h'.nJ, h'.nR, fun k ho => Nat.lt_of_lt_of_le (h'.bound k ho) hs⟩
/-- A slice of strings of the law's own. -/
structure Mine (W w : World) (O : Nat → Prop) (v : Value) (rs : List (List UInt8)) : Prop where
  row : w.ownsRow W.heap.size 9 1 v rs.length (strs rs)
  off : ∀ p, v.ownBlock = some p → ¬ O p
theorem Mine.ro {W w : World} {O : Nat → Prop} {v : Value} {rs : List (List UInt8)} (h : Mine W w O v rs) : Ro w O v rs := ⟨row_mono h.row (Nat.zero_le _), h.off⟩
theorem Mine.step {W w w' : World} {O O' : Nat → Prop} {v : Value} {rs : List (List UInt8)} (h : Mine W w O v rs) (k : Step O w w' O') : Mine W w' O' v rs :=
  ⟨ownsRow_heap h.row (fun p hp => k.own.block p (h.row.lt p hp).2 (h.off p hp)), (h.ro.step k).off⟩
theorem Mine.sub {W w : World} {O Od : Nat → Prop} {v : Value} {rs : List (List UInt8)} (h : Mine W w O v rs) (hs : ∀ k, Od k → O k) : Mine W w Od v rs := ⟨h.row, fun p hp ho => h.off p hp (hs p ho)⟩
theorem Mine.appended {W w w4 : World} {O : Nat → Prop} {v : Value} {rs : List (List UInt8)} {r : List UInt8} {ob : Obj} {g cap : Nat} (h : Mine W w O v rs) (hn : New W w O) (hb : ∀ k, O k → k < w.heap.size)
    (hown : w4.ownsRow W.heap.size 9 1 (.slice (some ⟨g, 0, none⟩) (rs.length + 1) cap) (rs.length + 1) (strs rs ++ [.string (S r)])) (hgr : (w.alloc ob).grownBy w4 v.ownBlock) (hg : v.ownBlock = some g ∨ g = w.heap.size + 1) :
    New W w4 O ∧ Mine W w4 O (.slice (some ⟨g, 0, none⟩) (rs.length + 1) cap) (rs ++ [r]) ∧ w.heap.size ≤ w4.heap.size ∧ ∀ k, O k → w4.heap[k]? = w.heap[k]? := by
  have hsA : (w.alloc ob).heap.size = w.heap.size + 1 := by simp
  have hs4 := hgr.size
  rw [hsA] at hs4
  have hk4 : ∀ k, k < w.heap.size → v.ownBlock ≠ some k → w4.heap[k]? = w.heap[k]? := fun k hk hne => by
    rw [hgr.block k (by omega) (fun e => hne e.symm)]
    exact World.grownBy.block (Fr.alloc w ob) k hk (by simp)
  refine ⟨⟨Fr.of_below ⟨hgr.os.trans hn.fr.below.os, hgr.tape.trans hn.fr.below.tape, hgr.output.trans hn.fr.below.output, Nat.le_trans hn.fr.size (by omega), fun i hi => (hk4 i (Nat.lt_of_lt_of_le hi hn.fr.size) (fun e => by have := (h.row.lt i e).1; omega)).trans (hn.fr.below.block i hi)⟩, hn.up⟩, ⟨?_, fun p hp ho => ?_⟩, by omega, fun k hk => hk4 k (hb k hk) (fun e => h.off k e hk)⟩
  · rw [List.length_append, strs_snoc]; exact hown
  · obtain rfl : g = p := Option.some.inj hp
    rcases hg with hg | hg
    · exact h.off _ hg ho
    · have := hb _ ho; omega

set_option maxHeartbeats 8000000 in
set_option maxRecDepth 100000 in
theorem stays_law (v0 v1 v2 v3 : Value) (o : List OP) (t : List (List UInt8)) (k2 k3 : List Int) (W : World) (ht : Tab W) (ho : Opl W v0 o) (hs : IsSl W v1 (t.map fun z => .string (S z))) (h2 : Ints W v2 k2) (h3 : Ints W v3 k3)
    (hol : o.length ≤ 9223372036854775807) (htl : t.length ≤ 9223372036854775807) (hk2 : k2.length ≤ 9223372036854775807) (hk3 : k3.length ≤ 9223372036854775807) :
    Calls Tryd.prog 5 #[v0, v1, v2, v3] W fun e w' => e = .returned (.bool true) ∧ Fr W w' := by
  obtain ⟨i0, hi, hz0, hz1, hz2⟩ := info_parts infoStr
  obtain ⟨a0, c0, hv0⟩ := ho.form
  obtain ⟨a1, c1, hv1⟩ := hs.len
  obtain ⟨a2, c2, hv2⟩ := h2.form
  obtain ⟨a3, c3, hv3⟩ := h3.form
  rw [List.length_map] at hv1
  subst hv0 hv1 hv2 hv3
  have HO := Lib.hid ho
  have HS := Lib.hid hs
  have H2 := Lib.hid h2
  have H3 := Lib.hid h3
  have HI := Lib.hid hi
  clear ho hs h2 h3 hi
  go_enter Tryd.func5, Tryd.ntmps5
  go_wp2_with fail
  refine (jsmall_any W ht).mono ?_
  rintro e w1 ⟨rfl, hf1⟩
  have HF1 := Lib.hid hf1
  clear hf1
  go_wp2_with fail
  refine (few_any _ o w1 (opl_fr HO.out HF1.out) hol).mono ?_
  rintro e w2 ⟨rfl, hf2⟩
  have HF2 := Lib.hid (HF1.out.trans hf2)
  clear hf2 HF1
  cases hfew : fewB o with
  | false =>
    go_wp2_with fail
    go_ret
    exact ⟨rfl, HF2.out⟩
  | true =>
    have HFEW := Lib.hid (fewB_true hfew)
    clear hfew
    go_wp2_with fail
    refine (texts_any _ t w2 (HS.out.fr HF2.out) htl).mono ?_
    rintro e w3 ⟨rfl, hf3⟩
    have HF3 := Lib.hid (HF2.out.trans hf3)
    clear hf3 HF2
    cases htx : textsB t with
    | false =>
      go_wp2_with fail
      go_ret
      exact ⟨rfl, HF3.out⟩
    | true =>
      have HTX := Lib.hid (textsB_true htx)
      clear htx
      by_cases hl2 : 50 < k2.length
      · go_wp2_with fail
        go_ret
        exact ⟨rfl, HF3.out⟩
      by_cases hl3 : 50 < k3.length
      · go_wp2_with fail
        go_ret
        exact ⟨rfl, HF3.out⟩
      go_wp2_with fail
      refine (sd_new w3).mono ?_
      rintro e w4 ⟨B, O4, rfl, hd4, hs4⟩
      have HD4 := Lib.hid hd4
      have HN4 := Lib.hid ((New.refl w3).step hs4)
      clear hd4 hs4
      go_upto_region 7 with fail
      go_cut [11] (fun jv wx => ∃ O, Hid (New w3 wx O) ∧ Hid (SO wx O B jv 0))
      case first =>
        go_wp2_with fail
        refine (so_open HD4.out).mono ?_
        rintro e w5 ⟨jv, E, O5, rfl, hs5, hx5⟩
        have HX := Lib.hid hx5
        have HN5 := Lib.hid (HN4.out.step hs5)
        clear hx5 hs5
        go_wp2_with fail
        go_meet
        exact ⟨O5, HN5, HX⟩
      case rest =>
        obtain ⟨O5, HN5, HS5⟩ := hcut
        clear HD4 HN4
        have HT3 := Lib.hid (ht.fr HF3.out)
        clear ht
        go_wp2_with fail
        go_loopw [11, 13] (fun jv i wr => ∃ (k : Nat) (O : Nat → Prop), k ≤ o.length ∧ i = .int .i64 k ∧ Hid (New w3 wr O) ∧ Hid (SO wr O B jv (300 * k))) (fun _ i _ => o.length - (intOf i).toNat)
        case atStart => exact ⟨0, O5, Nat.zero_le _, rfl, HN5, HS5⟩
        case round =>
          obtain ⟨k, O, hk, rfl, HN, HX⟩ := hrel
          clear HN5 HS5
          have hol25 := HFEW.out.1
          by_cases hlt : k < o.length
          · obtain ⟨b, oo, ha0, hat0⟩ := HO.out.get k hlt
            have hat := hat0.fr (HF3.out.trans HN.out.fr)
            have HA := Lib.hid ha0
            rw [ha0]
            have hm : o[k] ∈ o := List.getElem_mem hlt
            have hfewk := HFEW.out.2 _ hm
            have hi0 := hat0.ints
            generalize o[k] = a at hat hfewk hi0
            have HI0 := Lib.hid hi0
            obtain ⟨kd, hkd⟩ : ∃ kd, kd = a.k := ⟨_, rfl⟩
            have q0 := hat.c0
            rw [← hkd] at q0
            have q1 := hat.c1
            have q2 := hat.c2
            have q3 := hat.c3
            have HAT := Lib.hid hat
            have HFK := Lib.hid hfewk
            obtain ⟨ka, kc, hks⟩ := hat.ints.form
            rw [hks] at q3
            have HKS := Lib.hid hks
            have hlk : a.ks.length ≤ 50 := hfewk.2
            clear hat0 hat hm hfewk ha0 hkd hks hi0
            by_cases z0 : kd = 0
            · subst z0
              rcases HX.out with ⟨rfl, hd⟩ | ⟨J, rs, br, rfl, hj⟩
              · have HD := Lib.hid hd
                clear hd HX
                go_wp2_with fail
                go_roundw
                case rel => exact ⟨k + 1, O, by omega, by go_num, HN, Lib.hid (.inl ⟨rfl, HD.out.mono (by omega)⟩)⟩
                case measure => simp [intOf]; omega
              · have HJ := Lib.hid hj
                clear hj HX
                have hrs : a.l.length ≤ 200 := HFK.out.1
                have estr : a.str = S a.l := S_eta a.str
                rw [estr] at q1
                go_wp2_with fail
                refine (sj_append HJ.out a.l hrs (by omega) (HT3.out.fr HN.out.fr)).mono ?_
                rintro e wa ⟨E, O', rfl, hst, hcase⟩
                have HN' := Lib.hid (HN.out.step hst)
                have HX' : Hid (SO wa O' B (.pointer (some ⟨J, 0, none⟩)) (300 * (k + 1))) := Lib.hid (by
                  rcases hcase with ⟨_, _, h⟩ | ⟨_, _, h⟩
                  · exact .inr ⟨J, _, _, rfl, h.mono (by omega)⟩
                  · exact .inr ⟨J, _, _, rfl, h.mono (by omega)⟩)
                clear hst hcase
                go_wp2_with fail
                go_roundw
                case rel => exact ⟨k + 1, O', by omega, by go_num, HN', HX'⟩
                case measure => simp [intOf]; omega
            by_cases z1 : kd = 1
            · subst z1
              rcases HX.out with ⟨rfl, hd⟩ | ⟨J, rs, br, rfl, hj⟩
              · have HD := Lib.hid hd
                clear hd HX
                go_wp2_with fail
                go_roundw
                case rel => exact ⟨k + 1, O, by omega, by go_num, HN, Lib.hid (.inl ⟨rfl, HD.out.mono (by omega)⟩)⟩
                case measure => simp [intOf]; omega
              · have HJ := Lib.hid hj
                clear hj HX
                go_wp2_with fail
                refine (sj_sync HJ.out).mono ?_
                rintro e wa ⟨E, O', rfl, hst, hcase⟩
                have HN' := Lib.hid (HN.out.step hst)
                have HX' : Hid (SO wa O' B (.pointer (some ⟨J, 0, none⟩)) (300 * (k + 1))) := Lib.hid (by
                  rcases hcase with ⟨_, _, h⟩ | ⟨_, h⟩
                  · exact .inr ⟨J, _, _, rfl, h.sj.mono (by omega)⟩
                  · exact .inr ⟨J, _, _, rfl, h.mono (by omega)⟩)
                clear hst hcase
                go_wp2_with fail
                go_roundw
                case rel => exact ⟨k + 1, O', by omega, by go_num, HN', HX'⟩
                case measure => simp [intOf]; omega
            by_cases z2 : kd = 2
            · subst z2
              have hn9 := HAT.out.n
              go_upto_region 19 with fail
              have hlose := so_lose HX.out a.n hn9
              have HL := Lib.hid hlose
              clear hlose
              go_wp2_with fail
              refine HL.out.mono ?_
              rintro e wa ⟨O', rfl, hst, hso⟩
              have HN' := Lib.hid (HN.out.step hst)
              have HX' := Lib.hid (hso.mono (show 300 * k ≤ 300 * (k + 1) by omega))
              clear hst hso HL
              go_wp2_with fail
              go_roundw
              case rel => exact ⟨k + 1, O', by omega, by go_num, HN', HX'⟩
              case measure => simp [intOf]; omega
            by_cases z4 : kd = 4
            · subst z4
              obtain ⟨Od, sd, hup, hdk, hsub⟩ := HX.out.sd
              have hcr := dk_crash (P := fun s => Up s 0 (300 * k)) hdk hup.good.inv a.ks (.slice ka a.ks.length kc) (by have := HAT.out.ints; rw [HKS.out] at this; exact this) ((so_sub HN.out hsub).off (W0 := W) HF3.out.size (by have := HI0.out; rw [HKS.out] at this; exact this)) (hup.crash a.ks)
              have HC := Lib.hid hcr
              have HND := Lib.hid (so_sub HN.out hsub)
              clear hup hdk hsub hcr
              go_wp2_with fail
              refine HC.out.mono ?_
              rintro e wa ⟨O1, rfl, hst, hsx⟩
              have HN1 := Lib.hid (HND.out.step hst)
              have HX1 := Lib.hid hsx
              clear hst hsx HC HND
              go_wp2_with fail
              refine (sx_start HX1.out).mono ?_
              rintro e wb ⟨O2, rfl, hst, sb, hpb, hdb⟩
              have HN2 := Lib.hid (HN1.out.step hst)
              have HD2 : Hid (SD wb O2 B (300 * k)) := Lib.hid ⟨sb, hpb, hdb⟩
              clear hst hpb hdb HX1 HN1
              go_wp2_with fail
              refine (so_open HD2.out).mono ?_
              rintro e wc ⟨jv, E, O3, rfl, hst, hx3⟩
              have HN3 := Lib.hid (HN2.out.step hst)
              have HX3 := Lib.hid (hx3.mono (show 300 * k ≤ 300 * (k + 1) by omega))
              clear hst hx3 HD2 HN2
              go_wp2_with fail
              go_roundw
              case rel => exact ⟨k + 1, O3, by omega, by go_num, HN3, HX3⟩
              case measure => simp [intOf]; omega
            · have HX' := Lib.hid (HX.out.mono (show 300 * k ≤ 300 * (k + 1) by omega))
              go_wp2_with fail
              go_roundw
              case rel => exact ⟨k + 1, O, by omega, by go_num, HN, HX'⟩
              case measure => simp [intOf]; omega
          · obtain rfl : k = o.length := by omega
            rcases HX.out with ⟨rfl, hd⟩ | ⟨J, rs, br, rfl, hj⟩
            · clear hd
              go_wp2_with fail
              go_ret
              exact ⟨rfl, HF3.out.trans HN.out.fr⟩
            · have hz0 := hj.count
              obtain ⟨rv, hjn⟩ := hj.jn
              have HJ := Lib.hid hj
              clear hj HX
              go_wp2_with fail
              refine (all_any hjn (by omega)).mono ?_
              rintro e wa ⟨want, rfl, hrow, hfa⟩
              have HW : Hid (Mine w3 wa O want rs) := Lib.hid ⟨row_mono hrow HN.out.fr.size, fun p hp ho => by
                have h1 := (hrow.lt p hp).1
                have h2 := HJ.out.bound p ho
                omega⟩
              have HJa := Lib.hid (HJ.out.fr hfa)
              have HNa := Lib.hid (HN.out.step (.fr hfa))
              obtain ⟨z, hz⟩ : ∃ z, z = 300 * o.length := ⟨_, rfl⟩
              rw [← hz] at HJa hz0
              have hz9 : z ≤ 7500 := by omega
              clear hjn hrow hfa HJ HN hz
              go_wp2_with fail
              go_loopw [14, 15] (fun v i wr => ∃ (k : Nat) (O : Nat → Prop) (rs : List (List UInt8)) (br : Bool), k ≤ t.length ∧ i = .int .i64 k ∧ Hid (New w3 wr O) ∧ Hid (SJ wr O B J rs br (z + 251 * k)) ∧ Hid (Mine w3 wr O v rs)) (fun _ i _ => t.length - (intOf i).toNat)
              case atStart => exact ⟨0, O, rs, br, Nat.zero_le _, rfl, HNa, HJa, HW⟩
              case round =>
                obtain ⟨k, O, rs, br, hk, rfl, HN, HJ, HM⟩ := hrel
                clear HNa HJa HW hz0
                have ht8 := HTX.out.1
                by_cases hlt : k < t.length
                · obtain ⟨b, oo, ha1, hc1⟩ := sl_at HS.out k hlt
                  have hc := (HF3.out.trans HN.out.fr).cell hc1
                  have hr := HTX.out.2 _ (List.getElem_mem hlt)
                  rw [ha1]
                  have HA1 := Lib.hid ha1
                  generalize t[k] = r at hc hr hc1
                  have HC1 := Lib.hid hc1
                  clear ha1 hc1
                  have hcount := HJ.out.count
                  go_wp2_with fail
                  refine (sj_append HJ.out r hr (by omega) (HT3.out.fr HN.out.fr)).mono ?_
                  rintro e wb ⟨E, O', rfl, hst, hcase⟩
                  have HN' := Lib.hid (HN.out.step hst)
                  have HM' := Lib.hid (HM.out.step hst)
                  clear hst hc
                  rcases hcase with ⟨rfl, rfl, hj⟩ | ⟨rfl, rfl, hj⟩
                  · have HJ' := Lib.hid hj
                    have hc2 := (HF3.out.trans HN'.out.fr).cell HC1.out
                    clear hj HM HN HJ
                    go_wp2_with (at_builtin; refine wpList_append_lies _ rfl _ _ 46 rfl w3.heap.size 9 i0 (.string (S [])) 1 16 Tryd.underlying46 HI.out hz0 hz1 hz2 rfl (by decide) _ _ _ rfl (HM'.out.row.alloc _) ⟨wb.heap.size, 0, none⟩ 1 1 [.string (S r)] rfl rfl ?c1 ?c2 (by decide) ?c3 ?c4 ?c5 (wb.heap.size + 1) ?c6 ?_)
                    case c1 =>
                      intro j u hj
                      match j, hj with
                      | 0, hj => simp at hj; subst hj; simp [Addr.add]
                    case c2 => intro u hu; simp at hu; subst hu; rfl
                    case c3 => unfold maxLen; omega
                    case c4 => omega
                    case c5 => have := HN'.out.fr.size; simp; omega
                    case c6 => simp
                    intro g cap w4 hown4 hgr4 hg4 hglt4
                    obtain ⟨n1, n2, n3, n4⟩ := HM'.out.appended HN'.out HJ'.out.bound hown4 hgr4 hg4
                    have HN2 := Lib.hid n1
                    have HM2 := Lib.hid n2
                    obtain ⟨sj, hsj⟩ := HJ'.out
                    have HJ2 : Hid (SJ w4 O' B J (rs ++ [r]) false (z + 251 * (k + 1))) := Lib.hid (SJ.mono (z := z + 251 * k + 251) ⟨sj, hsj.up, hsj.jd.keep n3 n4, hsj.file, hsj.len, hsj.small⟩ (by omega))
                    clear n1 n2 n3 n4 hown4 hgr4 hg4 hglt4 hsj HM' HN' HJ' hc2
                    go_wp2_with fail
                    go_roundw
                    case rel => exact ⟨k + 1, O', rs ++ [r], false, by omega, by go_num, HN2, HJ2, HM2⟩
                    case measure => simp [intOf]; omega
                  · have HJ' := Lib.hid (hj.mono (show z + 251 * k ≤ z + 251 * (k + 1) by omega))
                    clear hj HM HN HJ
                    go_wp2_with fail
                    go_roundw
                    case rel => exact ⟨k + 1, O', rs, true, by omega, by go_num, HN', HJ', HM'⟩
                    case measure => simp [intOf]; omega
                · have hkt : k = t.length := by omega
                  have hz1' : z + 251 * k ≤ 10000 := by omega
                  generalize z + 251 * k = z1 at HJ hz1'
                  clear hkt
                  have hcount := HJ.out.count
                  go_wp2_with fail
                  refine (sj_sync HJ.out).mono ?_
                  rintro e wb ⟨E, O', rfl, hst, hcase⟩
                  have HN' := Lib.hid (HN.out.step hst)
                  have HM' := Lib.hid (HM.out.step hst)
                  clear hst
                  rcases hcase with ⟨rfl, rfl, hj⟩ | ⟨hE, hj⟩
                  · have HJ' := Lib.hid hj
                    clear hj HM HN HJ
                    go_wp2_with fail
                    refine (sh_lose HJ'.out).mono ?_
                    rintro e wc ⟨O2, rfl, hst, hj⟩
                    have HN2 := Lib.hid (HN'.out.step hst)
                    have HM2 := Lib.hid (HM'.out.step hst)
                    have HJ2 := Lib.hid hj
                    clear hst hj HM' HN' HJ'
                    go_wp2_with fail
                    go_loopw [11, 17] (fun jv i wr => ∃ (k : Nat) (O : Nat → Prop) (J : Nat), k ≤ 2 ∧ i = .int .i64 k ∧ jv = .pointer (some ⟨J, 0, none⟩) ∧ Hid (New w3 wr O) ∧ Hid (SQ wr O B J rs z1) ∧ Hid (Mine w3 wr O _ rs)) (fun _ i _ => 2 - (intOf i).toNat)
                    case atStart => exact ⟨0, O2, J, by omega, rfl, rfl, HN2, HJ2, HM2⟩
                    case round =>
                      obtain ⟨k, O, J, hk, rfl, rfl, HN, HJ, HM⟩ := hrel
                      clear HN2 HJ2 HM2
                      obtain ⟨rv, hjn⟩ := HJ.out.sj.jn
                      go_upto_region 39 with fail
                      have hcase : k = 2 ∨ k = 0 ∨ k = 1 := by omega
                      rcases hcase with rfl | hk01
                      · go_wp2_with fail
                        refine (all_any hjn (by omega)).mono ?_
                        rintro e wc ⟨got, rfl, hrow, hfc⟩
                        have HR := Lib.hid (row_mono hrow (Nat.zero_le _) : Row wc got rs)
                        have HM2 := Lib.hid (HM.out.step (.fr hfc))
                        have HFC := Lib.hid (HN.out.fr.trans hfc)
                        clear hrow hfc hjn HM HN HJ
                        go_wp2_with fail
                        refine (sameTexts_any got _ rs wc (Row.isSl HR.out) HM2.out.ro.row.isSl (by omega)).mono ?_
                        rintro e wd ⟨rfl, hfd⟩
                        go_wp2_with fail
                        go_ret
                        exact ⟨rfl, HF3.out.trans (HFC.out.trans hfd)⟩
                      · have hk2' : k < 2 := by omega
                        go_wp2_with fail
                        refine (all_any hjn (by omega)).mono ?_
                        rintro e wc ⟨got, rfl, hrow, hfc⟩
                        have HR := Lib.hid (row_mono hrow (Nat.zero_le _) : Row wc got rs)
                        have HM2 := Lib.hid (HM.out.step (.fr hfc))
                        have HN2 := Lib.hid (HN.out.step (.fr hfc))
                        have HJ2 := Lib.hid (HJ.out.fr hfc)
                        clear hrow hfc hjn HM HN HJ
                        go_wp2_with fail
                        refine (sameTexts_any got _ rs wc (Row.isSl HR.out) HM2.out.ro.row.isSl (by omega)).mono ?_
                        rintro e wd ⟨rfl, hfd⟩
                        have HM3 := Lib.hid (HM2.out.step (.fr hfd))
                        have HN3 := Lib.hid (HN2.out.step (.fr hfd))
                        obtain ⟨Od, sd, hdk, hsub, hinv, hdq⟩ := (HJ2.out.fr hfd).crash
                        clear hfd HM2 HN2 HJ2 HR
                        rcases hk01 with rfl | rfl
                        · have hcr := dk_crash (P := DQ rs z1) hdk hinv k2 (.slice a2 k2.length c2) (H2.out.fr (HF3.out.trans HN3.out.fr)) ((so_sub HN3.out hsub).off (W0 := W) HF3.out.size H2.out) (hdq k2)
                          have HC := Lib.hid hcr
                          have HND := Lib.hid (so_sub HN3.out hsub)
                          have HMD := Lib.hid (HM3.out.sub hsub)
                          clear hdk hinv hdq hsub hcr
                          go_wp2_with fail
                          refine HC.out.mono ?_
                          rintro e we ⟨O4, rfl, hst, hsx⟩
                          have HN4 := Lib.hid (HND.out.step hst)
                          have HM4 := Lib.hid (HMD.out.step hst)
                          have HX4 := Lib.hid hsx
                          clear hst hsx HC HND HMD
                          go_wp2_with fail
                          refine (sx_start HX4.out).mono ?_
                          rintro e wf ⟨O5, rfl, hst, sb, hpb, hdb⟩
                          have HN5 := Lib.hid (HN4.out.step hst)
                          have HM5 := Lib.hid (HM4.out.step hst)
                          have HPB := Lib.hid hpb
                          have HDB := Lib.hid hdb
                          clear hst hpb hdb HX4 HN4 HM4
                          go_wp2_with fail
                          refine (dq_open HDB.out HPB.out).mono ?_
                          rintro e wg ⟨J6, O6, rfl, hst, hsq⟩
                          have HN6 := Lib.hid (HN5.out.step hst)
                          have HM6 := Lib.hid (HM5.out.step hst)
                          have HJ6 := Lib.hid hsq
                          clear hst hsq HN5 HM5 HPB HDB
                          go_wp2_with fail
                          go_roundw
                          case rel => exact ⟨1, O6, J6, by omega, by go_num, rfl, HN6, HJ6, HM6⟩
                          case measure => simp [intOf]
                        · have hcr := dk_crash (P := DQ rs z1) hdk hinv k3 (.slice a3 k3.length c3) (H3.out.fr (HF3.out.trans HN3.out.fr)) ((so_sub HN3.out hsub).off (W0 := W) HF3.out.size H3.out) (hdq k3)
                          have HC := Lib.hid hcr
                          have HND := Lib.hid (so_sub HN3.out hsub)
                          have HMD := Lib.hid (HM3.out.sub hsub)
                          clear hdk hinv hdq hsub hcr
                          go_wp2_with fail
                          refine HC.out.mono ?_
                          rintro e we ⟨O4, rfl, hst, hsx⟩
                          have HN4 := Lib.hid (HND.out.step hst)
                          have HM4 := Lib.hid (HMD.out.step hst)
                          have HX4 := Lib.hid hsx
                          clear hst hsx HC HND HMD
                          go_wp2_with fail
                          refine (sx_start HX4.out).mono ?_
                          rintro e wf ⟨O5, rfl, hst, sb, hpb, hdb⟩
                          have HN5 := Lib.hid (HN4.out.step hst)
                          have HM5 := Lib.hid (HM4.out.step hst)
                          have HPB := Lib.hid hpb
                          have HDB := Lib.hid hdb
                          clear hst hpb hdb HX4 HN4 HM4
                          go_wp2_with fail
                          refine (dq_open HDB.out HPB.out).mono ?_
                          rintro e wg ⟨J6, O6, rfl, hst, hsq⟩
                          have HN6 := Lib.hid (HN5.out.step hst)
                          have HM6 := Lib.hid (HM5.out.step hst)
                          have HJ6 := Lib.hid hsq
                          clear hst hsq HN5 HM5 HPB HDB
                          go_wp2_with fail
                          go_roundw
                          case rel => exact ⟨2, O6, J6, by omega, by go_num, rfl, HN6, HJ6, HM6⟩
                          case measure => simp [intOf]
                  · have HJ' := Lib.hid hj
                    have hEb : (E != 0) = true := bne_iff_ne.2 hE
                    obtain ⟨rv, hjn⟩ := hj.jn
                    clear hj HM HN HJ
                    go_wp2_with fail
                    refine (all_any hjn (by omega)).mono ?_
                    rintro e wc ⟨got, rfl, hrow, hfc⟩
                    have HR := Lib.hid (row_mono hrow (Nat.zero_le _) : Row wc got rs)
                    have HM2 := Lib.hid (HM'.out.step (.fr hfc))
                    have HFC := Lib.hid (HN'.out.fr.trans hfc)
                    clear hrow hfc hjn HM' HN' HJ'
                    go_wp2_with fail
                    refine (sameTexts_any got _ rs wc (Row.isSl HR.out) HM2.out.ro.row.isSl (by omega)).mono ?_
                    rintro e wd ⟨rfl, hfd⟩
                    go_wp2_with fail
                    go_ret
                    exact ⟨rfl, HF3.out.trans (HFC.out.trans hfd)⟩
end Go.Proofs.YtgncliigmjeffaaDoor
