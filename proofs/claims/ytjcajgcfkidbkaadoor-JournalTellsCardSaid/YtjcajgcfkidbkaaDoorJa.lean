/-
  Append of a journal.
-/
import Derived.Test.YtjcajgcfkidbkaaDoorJo
import Derived.Deep.AppendLies
namespace Go.Proofs.YtjcajgcfkidbkaaDoor
open Go.RowKit

def appL (E : Int) (rs : List (List UInt8)) (r : List UInt8) : List (List UInt8) := if E = 0 then rs ++ [r] else rs
set_option maxRecDepth 100000 in
theorem append_broken {w : World} {J B : Nat} {f : Int} {rv : Value} {rs : List (List UInt8)} (h : Jn w J B f rv rs true) (r : ByteArray) :
    Calls Tryd.prog 16 #[.pointer (some ⟨J, 0, none⟩), .string r] w fun e w' => e = .returned (.int .i64 7) ∧ w' = w := by
  have c4 := h.c4
  go_enter Tryd.func16, Tryd.ntmps16
  go_wp2_with fail
  go_ret
  exact ⟨rfl, rfl⟩
set_option maxRecDepth 100000 in
theorem append_long {w : World} {J B : Nat} {f : Int} {rv : Value} {rs : List (List UInt8)} (h : Jn w J B f rv rs false) (r : ByteArray) (hr : 20000 < r.size) :
    Calls Tryd.prog 16 #[.pointer (some ⟨J, 0, none⟩), .string r] w fun e w' => e = .returned (.int .i64 3) ∧ w' = w := by
  have c4 := h.c4
  go_enter Tryd.func16, Tryd.ntmps16
  go_wp2_with fail
  go_ret
  exact ⟨rfl, rfl⟩
set_option maxHeartbeats 2000000 in
set_option maxRecDepth 100000 in
theorem append_go {w : World} {O : Nat → Prop} {B J : Nat} {s : RS} {f : Int} {rs : List (List UInt8)} (h : JD w O B J s f rs false) (hI : Good s) (r : List UInt8) (hr : r.length ≤ 20000) (hm : (Jm.forms rs).length + (Jm.formE.f r).length ≤ 1048576) (ht : Tab w) :
    Calls Tryd.prog 16 #[.pointer (some ⟨J, 0, none⟩), .string (S r)] w fun e w' => e = .returned (.int .i64 (writeE s f (Jm.forms rs).length (Jm.formE.f r))) ∧
      JDP O w w' B J (writeS s f (Jm.forms rs).length (Jm.formE.f r)) f (appL (writeE s f (Jm.forms rs).length (Jm.formE.f r)) rs r) (writeE s f (Jm.forms rs).length (Jm.formE.f r) != 0) := by
  obtain ⟨Od, rv, hj⟩ := h
  obtain ⟨i0, hi, hz0, hz1, hz2⟩ := info_parts infoStr
  have hcnt := Jm.forms_count rs
  have c4 := hj.jn.c4
  have HJ := Lib.hid hj
  clear hj
  obtain ⟨fr, hfr⟩ : ∃ fr, fr = Jm.formE.f r := ⟨_, rfl⟩
  obtain ⟨L, hL⟩ : ∃ L, L = (Jm.forms rs).length := ⟨_, rfl⟩
  rw [← hfr, ← hL] at hm
  rw [← hfr, ← hL]
  rw [← hL] at hcnt
  generalize hE : writeE s f L fr = E at *
  have HE := Lib.hid hE
  have HF := Lib.hid hfr
  have HL := Lib.hid hL
  clear hE hfr hL
  go_enter Tryd.func16, Tryd.ntmps16
  go_wp2_with fail
  refine (form_any r w (by omega) ht).mono ?_
  rintro e w1 ⟨rfl, hf1⟩
  rw [← HF.out]
  have hj1 := HJ.out.fr hf1
  have c0 := hj1.jn.c0
  have c1 := hj1.jn.c1
  have c3 := hj1.jn.c3
  rw [← HL.out] at c3
  have HF1 := Lib.hid hf1
  have HJ1 := Lib.hid hj1
  have HD1 := Lib.hid (hj1.dk.fr (Fr.drew w1))
  clear hf1 hj1 ht c4
  go_upto_region 8 with fail
  go_cut [6] (fun c wx => c = .int .i64 E ∧ ∃ (Od2 : Nat → Prop) (w2 : World), wx = w2.setCell ⟨J, 4, none⟩ (.bool (E != 0)) ∧ Hid (JDAt w2 (fun k => O k ∨ Od2 k) Od2 B J rv (writeS s f L fr) f rs false) ∧ Hid (∀ k, (O k ∨ Od2 k) → Gr O w1.drew w2 k) ∧ Hid (Own O w1.drew w2))
  case first =>
    go_wp2_with fail
    go_region_with (first | (go_at_call 37; refine (write_any Od B f (L : Int) (S fr) fr s w1.drew rfl HD1.out hI.inv hI.calls (by omega) (by omega)).mono ?_; rintro e w2 ⟨rfl, hp2⟩; rw [HE.out]; obtain ⟨Od2, hj2, g2, o2⟩ := (HJ1.out.fr (Fr.drew w1)).disk hp2; have HJ2 := Lib.hid hj2; have HG2 := Lib.hid g2; have HO2 := Lib.hid o2; clear hp2 hj2 g2 o2) | (go_at_call 54; refine (heed_any HJ2.out.jn.heap rfl E _ rfl ⟨false, rfl⟩).mono ?_; rintro e w3 ⟨rfl, rfl⟩))
    all_goals (go_wp2_with fail; go_meet; exact ⟨rfl, Od2, w2, rfl, HJ2, HG2, HO2⟩)
  case rest =>
    obtain ⟨rfl, Od2, w2, rfl, HJ2, HG2, HO2⟩ := hcut
    have hm3 := HJ2.out.mark (E != 0)
    have HP := Lib.hid (JDAt.disk_mark (HF1.out.trans (Fr.drew w1)) HJ2.out HG2.out HO2.out (E != 0))
    clear c0 c1 c3
    by_cases hz : E = 0
    · subst hz
      have c2' := hm3.1.jn.c2
      have c3' := hm3.1.jn.c3
      have f2' := hm3.1.jn.fz 2
      have f3' := hm3.1.jn.fz 3
      rw [← HL.out] at c3'
      have H3 := Lib.hid hm3
      obtain ⟨w3, hw3⟩ : ∃ w3, w3 = w2.setCell ⟨J, 4, none⟩ (.bool ((0 : Int) != 0)) := ⟨_, rfl⟩
      rw [← hw3] at c2' c3' f2' f3' H3
      rw [← hw3]
      have HW3 := Lib.hid hw3
      clear hm3 HP hw3
      go_wp2_with (at_builtin; refine wpList_append_lies _ rfl _ _ 46 rfl 0 9 i0 (.string (S [])) 1 16 Tryd.underlying46 hi hz0 hz1 hz2 rfl (by decide) _ _ _ rfl (H3.out.1.jn.row.alloc _) ⟨w3.heap.size, 0, none⟩ 1 1 [.string (S r)] rfl rfl ?c1 ?c2 (by decide) ?c3 ?c4 (Nat.zero_le _) (w3.heap.size + 1) ?c6 ?_)
      case c1 =>
        intro j u hj
        match j, hj with
        | 0, hj => simp at hj; subst hj; simp [Addr.add]
      case c2 => intro u hu; simp at hu; subst hu; rfl
      case c3 => unfold maxLen; omega
      case c4 => omega
      case c6 => simp
      intro g cap w4 hown4 hgr4 hg4 hglt4
      have hJ4 : w4.heap[J]? = some (.cells (jCells B f rv rs false) 81 (0, 0)) := by
        rw [hgr4.block J (by have := H3.out.1.jn.lt; simp; omega) (fun e => H3.out.1.jn.ne J e.symm rfl)]
        exact (Fr.alloc w3 _).heap H3.out.1.jn.heap
      have hJ5 := heapB (i := 2) (v := .slice (some ⟨g, 0, none⟩) (rs.length + 1) cap) hJ4
      have d3 : (w4.setCell ⟨J, 2, none⟩ (.slice (some ⟨g, 0, none⟩) (rs.length + 1) cap)).cell? ⟨J, 3, none⟩ = some (.int .i64 (L : Int)) := by rw [HL.out]; exact cellOf hJ5 rfl
      have d2 : w4.cell? ⟨J, 2, none⟩ = some rv := cellOf hJ4 rfl
      have g2 : w4.frozen? ⟨J, 2, none⟩ = false := frozenOf hJ4 2
      have g3 : (w4.setCell ⟨J, 2, none⟩ (.slice (some ⟨g, 0, none⟩) (rs.length + 1) cap)).frozen? ⟨J, 3, none⟩ = false := frozenOf hJ5 3
      have HO4 := Lib.hid hown4
      have HG4 := Lib.hid hgr4
      have HX4 := Lib.hid hg4
      clear hown4 hgr4 hg4 hJ4 hJ5 c2' c3' f2' f3'
      go_wp2_with fail
      go_ret
      refine ⟨rfl, ?_⟩
      have hlen : (L : Int) + (fr.length : Int) = ((Jm.forms (rs ++ [r])).length : Nat) := by rw [HL.out, HF.out, Jm.forms_snoc, List.length_append, Int.natCast_add]
      unfold appL
      rw [if_pos rfl]
      exact JDP.fr_left (HF1.out.trans (Fr.drew w1)) (JDP.comb HG2.out HO2.out (JDP.comb Gr.self H3.out.2 (H3.out.1.appended HO4.out HG4.out HX4.out hlen)))
    · have hne : (E != 0) = true := bne_iff_ne.2 hz
      clear hm3
      go_wp2_with fail
      go_ret
      refine ⟨rfl, ?_⟩
      unfold appL
      rw [if_neg hz]
      have h := HP.out
      rw [hne] at h ⊢
      exact h
end Go.Proofs.YtjcajgcfkidbkaaDoor
