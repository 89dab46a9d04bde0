/-
  The law DiskTells, proved for every argument.
-/
import Derived.Test.YtpjoekjakjajcaaSm
import Derived.Test.YtpjoekjakjajcaaFs
namespace Go.Proofs.Ytpjoekjakjajcaa
open Go.RowKit

/-- Size. -/
def sizE (s : RS) (f : Int) : Int := if 0 ≤ f ∧ f < 16 then (s.sz f.toNat : Int) else 0
theorem sizeE_any (O : Nat → Prop) (B : Nat) (f : Int) (s : RS) (w : World) (h : Dk w O B s) :
    Calls Try.prog 16 #[.pointer (some ⟨B, 0, none⟩), .int .i64 f] w fun e w' => e = .returned (.int .i64 (sizE s f)) ∧ w' = w := by
  unfold sizE
  by_cases hf : 0 ≤ f ∧ f < 16
  · rw [if_pos hf]
    obtain ⟨n, rfl⟩ : ∃ n : Nat, f = n := ⟨f.toNat, by omega⟩
    exact size_yes O B n s w h (by omega)
  · rw [if_neg hf]
    exact size_no B f w (by omega)
/-! ### Steps of one of two -/
theorem do_h {W w : World} {B : Nat} {s : RS} {U : Thing} (a : AC) (ha : a.In W) (h : Has W w ((DT B s).sep U)) (hg : Good s) :
    Calls Try.prog 12 #[.pointer (some ⟨B, 0, none⟩), .agg #[.int .i64 a.k, .int .i64 a.f, .int .i64 a.n, .string a.str, a.v]] w fun e w' => e = .returned (.int .i64 (doE s a)) ∧ Has W w' ((DT B (doS s a)).sep U) := by
  obtain ⟨O, hd, hO, hk⟩ := h.open
  have hf := h.toFr
  refine (do_any O B a s w ⟨ha.ints.fr hf, ha.n, Nat.le_trans ha.few.1 (by decide), by have := ha.few.2.1; omega⟩ (fun p h0 hp => ?_) hd hg.inv hg.calls hg.lost).mono ?_
  · have := ha.ints.lt p h0 hp
    exact ⟨Nat.lt_of_lt_of_le this hf.size, fun hk => absurd (hO p hk) (by omega)⟩
  · rintro e w' ⟨rfl, h⟩
    exact ⟨rfl, hk w' (DT B (doS s a)) h⟩
theorem tell_h {W w : World} {B : Nat} {r : FS} {s : RS} {U : Thing} (a : AC) (ha : a.In W) (h : Has W w ((RfT B r).sep U)) (hr : RR r s) (hg : Good s) {n : Nat} (hb : FB n r) (hn : n ≤ 50000) :
    Calls Try.prog 13 #[.pointer (some ⟨B, 0, none⟩), .agg #[.int .i64 a.k, .int .i64 a.f, .int .i64 a.n, .string a.str, a.v]] w fun e w' => e = .returned (.int .i64 (tellE r a)) ∧ Has W w' ((RfT B (tellF r a)).sep U) := by
  obtain ⟨O, hd, hO, hk⟩ := h.open
  have hf := h.toFr
  refine (tell_any O B a w (ha.ints.fr hf) (fun p h0 hp => ?_) ha.few hd hr hg hb hn).mono ?_
  · have := ha.ints.lt p h0 hp
    exact ⟨Nat.lt_of_lt_of_le this hf.size, fun hk => absurd (hO p hk) (by omega)⟩
  · rintro e w' ⟨rfl, h⟩
    exact ⟨rfl, hk w' (RfT B (tellF r a)) h⟩
theorem sync_h {W w : World} {B : Nat} {s : RS} {U : Thing} (f : Int) (h : Has W w ((DT B s).sep U)) (hg : Good s) :
    Calls Try.prog 19 #[.pointer (some ⟨B, 0, none⟩), .int .i64 f] w fun e w' => e = .returned (.int .i64 (syncE s f)) ∧ Has W w' ((DT B (syncS s f)).sep U) := by
  obtain ⟨O, hd, hO, hk⟩ := h.open
  refine (sync_any O B f s w hd hg.inv hg.calls (by rw [strike_lost]; exact hg.lost)).mono ?_
  rintro e w' ⟨rfl, h⟩
  exact ⟨rfl, hk w' (DT B (syncS s f)) h⟩
theorem copy_h {W w : World} {B : Nat} {s : RS} {U : Thing} (h : Has W w ((DT B s).sep U)) (hg : Good s) :
    Calls Try.prog 18 #[.pointer (some ⟨B, 0, none⟩)] w fun e w' => ∃ B', e = .returned (.pointer (some ⟨B', 0, none⟩)) ∧ Has W w' ((DT B s).sep ((DT B' s).sep U)) := by
  obtain ⟨O, hd, hO, hk⟩ := h.open
  refine (copy_any O B s w hd hg.inv (by have := hg.keep; omega)).mono ?_
  rintro e w' ⟨B', rfl, h'⟩
  exact ⟨B', rfl, Has.turn (Has.new h (T := DT B' s) h')⟩
theorem down_h {W w : World} {B : Nat} {s : RS} {U : Thing} (h : Has W w ((DT B s).sep U)) :
    Calls Try.prog 14 #[.pointer (some ⟨B, 0, none⟩)] w fun e w' => e = .returned (.bool s.down) ∧ w' = w := by
  obtain ⟨O, hd, _, _⟩ := h.open
  exact down_any O B s w hd
theorem rdown_h {W w : World} {B : Nat} {r : FS} {U : Thing} (h : Has W w ((RfT B r).sep U)) :
    Calls Try.prog 15 #[.pointer (some ⟨B, 0, none⟩)] w fun e w' => e = .returned (.bool r.down) ∧ w' = w := by
  obtain ⟨O, hd, _, _⟩ := h.open
  exact rdown_any hd
theorem size_h {W w : World} {B : Nat} {s : RS} {U : Thing} (f : Int) (h : Has W w ((DT B s).sep U)) :
    Calls Try.prog 16 #[.pointer (some ⟨B, 0, none⟩), .int .i64 f] w fun e w' => e = .returned (.int .i64 (sizE s f)) ∧ w' = w := by
  obtain ⟨O, hd, _, _⟩ := h.open
  exact sizeE_any O B f s w hd
theorem rr_size {r : FS} {s : RS} (h : RR r s) (f : Int) : (((getI r.fl f).1.length : Nat) : Int) = sizE s f := by
  unfold sizE
  by_cases hf : 0 ≤ f ∧ f < 16
  · rw [if_pos hf]
    obtain ⟨n, rfl⟩ : ∃ n : Nat, f = n := ⟨f.toNat, by omega⟩
    rw [getI_nat, Int.toNat_natCast, (h.now n (by omega)).1]
  · rw [if_neg hf, getI_out h.fine hf]; rfl
theorem rsize_h {W w : World} {B : Nat} {r : FS} {s : RS} {U : Thing} (f : Int) (h : Has W w ((RfT B r).sep U)) (hr : RR r s) :
    Calls Try.prog 17 #[.pointer (some ⟨B, 0, none⟩), .int .i64 f] w fun e w' => e = .returned (.int .i64 (sizE s f)) ∧ Fr w w' := by
  obtain ⟨O, hd, _, _⟩ := h.open
  rw [← rr_size hr f]
  exact rsize_any hd f hr.fine.len
theorem read_h {W w : World} {B : Nat} {s : RS} {U : Thing} (f a n : Int) (h : Has W w ((DT B s).sep U)) (hg : Good s) (ha : a ≤ 9223372036854775807) (hn : n ≤ 9223372036854775807) :
    Calls Try.prog 20 #[.pointer (some ⟨B, 0, none⟩), .int .i64 f, .int .i64 a, .int .i64 n] w fun e w' => e = .returned (.tuple #[.string (S (readL s f a n)), .int .i64 (readE s f a n)]) ∧ Has W w' ((DT B s).sep U) := by
  obtain ⟨O, hd, _, _⟩ := h.open
  refine (read_any O B f a n s w hd hg.inv ha hn).mono ?_
  rintro e w' ⟨rfl, hf⟩
  exact ⟨rfl, h.fr hf⟩
theorem rread_h {W w : World} {B : Nat} {r : FS} {s : RS} {U : Thing} (f a n : Int) (h : Has W w ((RfT B r).sep U)) (hr : RR r s) (hg : Good s) (ha : a ≤ 9223372036854775807) (hn : n ≤ 9223372036854775807) :
    Calls Try.prog 21 #[.pointer (some ⟨B, 0, none⟩), .int .i64 f, .int .i64 a, .int .i64 n] w fun e w' => e = .returned (.tuple #[.string (S (readL s f a n)), .int .i64 (readE s f a n)]) ∧ Has W w' ((RfT B r).sep U) := by
  obtain ⟨O, hd, _, _⟩ := h.open
  rw [← rr_read hr, rr_readE hr]
  refine (rread_any hd hr hg.inv f a n ha hn).mono ?_
  rintro e w' ⟨rfl, hf⟩
  exact ⟨rfl, h.fr hf⟩
theorem good_sync' {s : RS} (h : Good s) (f : Int) : Good (syncS s f) := good_sync h f

set_option maxHeartbeats 8000000 in
set_option maxRecDepth 100000 in
theorem tells_law (v : Value) (l : List AC) (f at_ size : Int) (W : World) (h : Acts W v l) (hm : l.length ≤ 9223372036854775807) (_hf : f ≤ 9223372036854775807) (ha : at_ ≤ 9223372036854775807) (hs : size ≤ 9223372036854775807) :
    Calls Try.prog 3 #[v, .int .i64 f, .int .i64 at_, .int .i64 size] W fun e w' => e = .returned (.bool true) ∧ Fr W w' := by
  have HA := Lib.hid h
  have HM := Lib.hid hm
  obtain ⟨ao, ac, rfl⟩ := h.form
  clear h
  go_enter Try.func3, Try.ntmps3
  go_wp2_with fail
  refine (small_any _).mono ?_
  rintro e w1 ⟨rfl, h1⟩
  have H1 : Hid (Fr W w1) := Lib.hid h1
  clear h1
  rcases hfb : fewB l with _ | _
  · have HFB := Lib.hid hfb
    clear hfb
    go_wp2_with fail
    refine (few_any _ l _ (HA.out.fr H1.out) HM.out).mono ?_
    rw [HFB.out]
    rintro e w2 ⟨rfl, h2⟩
    have H2 : Hid (Fr W w2) := Lib.hid (H1.out.trans h2)
    clear h2 H1
    go_wp2_with fail
    go_ret
    exact ⟨rfl, H2.out⟩
  have HFB := Lib.hid hfb
  clear hfb
  go_wp2_with fail
  refine (few_any _ l _ (HA.out.fr H1.out) HM.out).mono ?_
  rw [HFB.out]
  rintro e w2 ⟨rfl, h2⟩
  have H2 : Hid (Fr W w2) := Lib.hid (H1.out.trans h2)
  clear h2 H1
  have hfew := fewB_true HFB.out
  have HIN := Lib.hid (HA.out.ins hfew.2)
  have hl40 := hfew.1
  clear hfew
  go_wp2_with fail
  refine (new_any _).mono ?_
  rintro e w3 ⟨B0, rfl, hd⟩
  have H3 : Hid (Has W w3 (DT B0 newS)) := Lib.hid (show DN W w3 B0 newS from .step H2.out (fun _ h => h.elim) hd)
  clear hd H2
  go_wp2_with fail
  refine (rnew_any _).mono ?_
  rintro e w4 ⟨BR, rfl, hd⟩
  have H4 : Hid (Has W w4 ((DT B0 newS).sep (RfT BR newF))) := Lib.hid (Has.new H3.out hd).comm
  clear hd H3
  go_wp2_with fail
  go_loopw [12, 10, 13] (fun i d _ wr => ∃ (k B : Nat) (s : RS) (r : FS), k ≤ l.length ∧ i = .int .i64 k ∧ d = .pointer (some ⟨B, 0, none⟩) ∧ RR r s ∧ Good s ∧ FB (k * 700) r ∧ Has W wr ((DT B s).sep (RfT BR r))) (fun i _ _ _ => l.length - (intOf i).toNat)
  case atStart => exact ⟨0, B0, newS, newF, Nat.zero_le _, rfl, rfl, rr_new, good_new, ⟨Nat.zero_le _, Nat.zero_le _⟩, H4.out⟩
  case round =>
    obtain ⟨k, B, s, r, hk, rfl, rfl, hr, hg, hb, h5⟩ := hrel
    have H5 := Lib.hid h5
    have HG := Lib.hid hg
    have HR := Lib.hid hr
    have HB := Lib.hid hb
    clear h5 hg hr hb H4
    by_cases hlt : k < l.length
    · obtain ⟨b, ob, rfl, hat⟩ := HA.out.get k hlt
      have HAI := Lib.hid (HIN.out l[k] (List.getElem_mem hlt))
      generalize l[k] = a at *
      have HAT := Lib.hid hat
      clear hat
      obtain ⟨h61, h62⟩ := rr_tell HR.out HG.out.inv a
      have hg6 := HAI.out.good HG.out
      have hb6 := fb_tell HB.out HAI.out.few
      have hdo := do_h (U := RfT BR r) (w := wr.drew) a HAI.out (H5.out.fr (Fr.drew _)) HG.out
      have htl := fun (B1 : Nat) (s1 : RS) (w' : World) (h : Has W w' ((DT B1 s1).sep (RfT BR r))) => tell_h (w := w') a HAI.out h.comm HR.out HG.out HB.out (by omega)
      rw [h62] at htl
      have HDO := Lib.hid hdo
      have HTL := Lib.hid htl
      clear hdo htl h62
      generalize doS s a = s6 at *
      generalize tellF r a = r6 at *
      generalize doE s a = e6 at *
      have HR6 := Lib.hid h61
      have HG6 := Lib.hid hg6
      have HB6 := Lib.hid (hb6.mono (m := (k + 1) * 700) (by omega))
      have HDN := Lib.hid (show s6.down = r6.down from h61.down.symm)
      clear h61 hg6 hb6 HR HG HB
      have c0 := (HAT.out.fr (H5.out.toFr.trans (Fr.drew _))).c0
      have c1 := (HAT.out.fr (H5.out.toFr.trans (Fr.drew _))).c1
      have c2 := (HAT.out.fr (H5.out.toFr.trans (Fr.drew _))).c2
      have c3 := (HAT.out.fr (H5.out.toFr.trans (Fr.drew _))).c3
      have c4 := (HAT.out.fr (H5.out.toFr.trans (Fr.drew _))).c4
      go_upto_region 11 with fail
      go_cut [61] from 27 to 79 (fun c wx => c = .bool false ∧ Hid (Has W wx ((DT B s6).sep (RfT BR r6))))
      case first =>
        go_wp2_with fail
        go_region_with (first
          | (go_at_call 12; refine HDO.out.mono ?_; rintro e w6 ⟨rfl, h6⟩; have H6 := Lib.hid h6; have d0 := (HAT.out.fr h6.toFr).c0; have d1 := (HAT.out.fr h6.toFr).c1; have d2 := (HAT.out.fr h6.toFr).c2; have d3 := (HAT.out.fr h6.toFr).c3; have d4 := (HAT.out.fr h6.toFr).c4; clear h6)
          | (go_at_call 13; refine (HTL.out B s6 _ H6.out).mono ?_; rintro e w7 ⟨rfl, h7⟩; have H7 := Lib.hid h7; clear h7)
          | (go_at_call 14; refine (down_h H7.out.comm).mono ?_; rw [HDN.out]; rintro e w8 ⟨rfl, rfl⟩)
          | (go_at_call 15; refine (rdown_h H7.out).mono ?_; rintro e w8 ⟨rfl, rfl⟩)
          | (go_at_call 16; refine (size_h f H7.out.comm).mono ?_; rintro e w8 ⟨rfl, rfl⟩)
          | (go_at_call 17; refine (rsize_h f H7.out HR6.out).mono ?_; rintro e w9 ⟨rfl, hf9⟩; have H9 := Lib.hid (H7.out.fr hf9); clear hf9))
        all_goals (go_wp2_with fail; go_meet; exact ⟨rfl, Lib.hid H9.out.comm⟩)
      case rest =>
        obtain ⟨rfl, H6⟩ := hcut
        clear c0 c1 c2 c3 c4 HDO HTL HDN
        have hq : (l.length : Int).tdiv 2 = ((l.length / 2 : Nat) : Int) := rfl
        by_cases hmid : (k : Int) = ((l.length / 2 : Nat) : Int)
        · obtain ⟨b2, o2, hb2, hat0⟩ := HA.out.get 0 (by omega)
          obtain ⟨rfl, rfl⟩ : b = b2 ∧ ob = o2 := by simpa using hb2
          have HAI0 := Lib.hid (HIN.out l[0] (List.getElem_mem (by omega)))
          generalize l[0] = a0 at *
          have HAT0 : Hid (At W b ob a0) := Lib.hid hat0
          have hpos : (0 : Int) < (l.length : Int) := by omega
          clear hat0 hb2
          go_wp2_with fail
          refine (copy_h H6.out HG6.out).mono ?_
          rintro e w7 ⟨B2, rfl, h7⟩
          have H7 := Lib.hid h7
          clear h7
          have c0 := (HAT0.out.fr H7.out.toFr).c0
          have c1 := (HAT0.out.fr H7.out.toFr).c1
          have c2 := (HAT0.out.fr H7.out.toFr).c2
          have c3 := (HAT0.out.fr H7.out.toFr).c3
          have c4 := (HAT0.out.fr H7.out.toFr).c4
          go_wp2_with fail
          refine (do_h a0 HAI0.out H7.out HG6.out).mono ?_
          rintro e w8 ⟨rfl, h8⟩
          have H8 := Lib.hid h8
          clear h8 c0 c1 c2 c3 c4
          go_wp2_with fail
          refine (sync_h f H8.out (HAI0.out.good HG6.out)).mono ?_
          rintro e w9 ⟨rfl, h9⟩
          have H9 := Lib.hid h9
          clear h9
          go_wp2_with fail
          go_roundw
          case rel => exact ⟨k + 1, B2, s6, r6, by omega, by go_num, rfl, HR6.out, HG6.out, HB6.out, H9.out.right⟩
          case measure => simp [intOf]; omega
        · go_wp2_with fail
          go_roundw
          case rel => exact ⟨k + 1, B, s6, r6, by omega, by go_num, rfl, HR6.out, HG6.out, HB6.out, H6.out⟩
          case measure => simp [intOf]; omega
    · obtain ⟨x, hx⟩ : ∃ x, x = S (readL s f at_ size) := ⟨_, rfl⟩
      obtain ⟨re, hre⟩ : ∃ re, re = readE s f at_ size := ⟨_, rfl⟩
      have HX := Lib.hid hx
      have HRE := Lib.hid hre
      clear hx hre
      go_wp2_with fail
      refine (read_h f at_ size H5.out HG.out ha hs).mono ?_
      rw [← HX.out, ← HRE.out]
      rintro e w6 ⟨rfl, h6⟩
      have H6 := Lib.hid h6
      clear h6
      go_wp2_with fail
      refine (rread_h f at_ size H6.out.comm HR.out HG.out ha hs).mono ?_
      rw [← HX.out, ← HRE.out]
      rintro e w7 ⟨rfl, h7⟩
      have H7 := Lib.hid h7
      clear h7
      go_wp2_with fail
      go_ret
      exact ⟨rfl, H7.out.toFr⟩
end Go.Proofs.Ytpjoekjakjajcaa
