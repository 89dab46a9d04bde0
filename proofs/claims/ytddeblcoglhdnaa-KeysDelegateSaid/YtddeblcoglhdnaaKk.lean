/-
  standingOf.
-/
import Derived.Test.YtddeblcoglhdnaaKr
namespace Go.Proofs.Ytddeblcoglhdnaa
open Go.RowKit Mb

def StdP (l : List Ft) (n : Txt) (w : World) (e : Ending) (w' : World) : Prop := ∃ u v, e = .returned (.agg #[u, v]) ∧ Pt w u (own l n) ∧ Pt w v (dlg l n) ∧ Fr w w'
theorem std_eq {l : List Ft} {k : Nat} (h : k < l.length) (n : Txt) (he : nm l[k] = n) : aft (own (l.take k) n, dlg (l.take k) n) l[k] = (own (l.take (k + 1)) n, dlg (l.take (k + 1)) n) := by
  unfold own dlg
  rw [std_succ h]
  unfold stp
  rw [if_pos he]
theorem std_ne {l : List Ft} {k : Nat} (h : k < l.length) (n : Txt) (he : nm l[k] ≠ n) : own (l.take (k + 1)) n = own (l.take k) n ∧ dlg (l.take (k + 1)) n = dlg (l.take k) n := by
  unfold own dlg
  rw [std_succ h]
  unfold stp
  rw [if_neg he]
  exact ⟨rfl, rfl⟩
theorem OnlyB.setRow (w : World) (B : Nat) (cs : Array Value) : OnlyB B w (w.setRow B cs) := ⟨rfl, rfl, rfl, by simp, fun _k hk => setRow_other w B _ cs hk⟩
theorem ones2 {W : World} {u v : Value} {x y : Option Ft} (hu : Pt W u x) (hv : Pt W v y) : (#[u, v] : Array Value).all (·.oneCell') = true := by
  obtain ⟨p1, rfl⟩ := hu.one
  obtain ⟨p2, rfl⟩ := hv.one
  exact all_oneCell_toArray (cs := [.pointer p1, .pointer p2]) (by intro v hv; simp only [List.mem_cons, List.not_mem_nil, or_false] at hv; rcases hv with rfl | rfl <;> rfl)
theorem infoSt : (Try.prog.info? 64).map (·.size) = some 2 := by kernel_rfl
/-- The standing s of the first k facts lies in block B + 1. -/
structure Sos (l : List Ft) (n : Txt) (w : World) (k : Nat) (wr : World) (u v : Value) : Prop where
  b0 : wr.heap[w.heap.size]? = some (.cells #[.pointer none, .pointer none] 64 (0, 0))
  b1 : wr.heap[w.heap.size + 1]? = some (.cells #[u, v] 64 (0, 0))
  own : Pt w u (own (l.take k) n)
  dlg : Pt w v (dlg (l.take k) n)
  fr : Fr w wr
theorem load_st {w : World} {B : Nat} {u v : Value} (h : w.heap[B]? = some (.cells #[u, v] 64 (0, 0))) : (loadVar 64 ⟨B, 0, none⟩).run Try.prog w = .ok (.agg #[u, v]) w :=
  run_loadVar_row w B 64 64 #[u, v] (0, 0) _ h Try.underlying64 rfl infoSt
set_option maxRecDepth 100000 in
set_option maxHeartbeats 2000000 in
theorem standingOf_any (v : Value) (l : List Ft) (n : Txt) (w : World) (h : FSl w v l) (hl : LB l) :
    Calls Try.prog 27 #[v, .string (S n)] w (StdP l n w) := by
  have HL := Lib.hid hl
  have hn := hl.len
  obtain ⟨av, ac, rfl⟩ := h.len
  have HV := Lib.hid h
  have HF0 := Lib.hid ((Fr.alloc w (.cells #[.pointer none, .pointer none] 64)).trans (Fr.alloc _ (.cells #[.pointer none, .pointer none] 64)))
  clear h hl
  go_enter Try.func27, Try.ntmps27
  have HS0 : Hid (Sos l n w 0 ((w.alloc (.cells #[.pointer none, .pointer none] 64)).alloc (.cells #[.pointer none, .pointer none] 64)) (.pointer none) (.pointer none)) := Lib.hid {
    b0 := (Fr.alloc _ _).heap (MapKept.heap_alloc w _).1
    b1 := by
      have := (MapKept.heap_alloc (w.alloc (.cells #[.pointer none, .pointer none] 64)) (.cells #[.pointer none, .pointer none] 64)).1
      rwa [show (w.alloc (.cells #[.pointer none, .pointer none] 64)).heap.size = w.heap.size + 1 by simp] at this
    own := Pt.none _
    dlg := Pt.none _
    fr := HF0.out }
  clear HF0
  go_wp2_with fail
  generalize ((w.alloc (.cells #[.pointer none, .pointer none] 64)).alloc (.cells #[.pointer none, .pointer none] 64)) = w0 at *
  go_loopw [9] (fun vi wr => ∃ (k : Nat) (u v : Value), k ≤ l.length ∧ vi = .int .i64 k ∧ Hid (Sos l n w k wr u v)) (fun vi _ => l.length - (intOf vi).toNat)
  case atStart => exact ⟨0, _, _, Nat.zero_le _, rfl, HS0⟩
  case round =>
    obtain ⟨k, u, v, hk, rfl, hS⟩ := hrel
    by_cases hlt : k < l.length
    · obtain ⟨g, o, rfl, hat⟩ := HV.out.at k hlt
      have hat2 := hat.fr hS.out.fr
      have HN := Lib.hid (nameOf_any g (o + k * 29) l[k] wr hat2)
      by_cases he : nm l[k] = n
      · have hA := fun w' (hw : Fr wr w') => after_any u v _ _ g (o + k * 29) l[k] w w' hS.out.own hS.out.dlg hat (HL.out.get hlt) (hS.out.fr.trans hw)
        unfold AftP at hA
        rw [std_eq hlt n he] at hA
        have HA := Lib.hid hA
        have h1 := cellOf hS.out.b1 (i := 0) (v := u) rfl
        have h2 := cellOf hS.out.b1 (i := 1) (v := v) rfl
        rw [he] at HN
        have HB0 := Lib.hid (show wr.drew.heap[w.heap.size]? = _ from hS.out.b0)
        have HB1 := Lib.hid (show wr.drew.heap[w.heap.size + 1]? = _ from hS.out.b1)
        have HFW := Lib.hid hS.out.fr
        clear hA hat hat2 HV HL he hS
        go_upto_region 6 with (go_at_call 30; refine HN.out.mono ?_; rintro e w1 ⟨rfl, rfl⟩)
        refine wp_region_still_tail 4 (by kernel_rfl) (by kernel_rfl) ?_
        simp only [List.take_succ_cons, List.take_zero, List.drop_succ_cons, List.drop_zero]
        iterate 4 still_step
        refine wpStill_nil ?_
        go_wp2_with (first
          | (go_at_call 32; refine (HA.out _ (Fr.drew _)).mono ?_; rintro e w2 ⟨u2, v2, rfl, hu2, hv2, hf2⟩; have B1 := hf2.heap HB1.out; have HO := Lib.hid hu2; have HD := Lib.hid hv2; have HF2 := Lib.hid hf2; clear hu2 hv2 hf2)
          | (refine wpList_store_row rfl 64 (.tmp 5) (.tmp 22) rfl (w.heap.size + 1) #[u2, v2] rfl rfl 64 _ B1 infoSt rfl (ones2 HO.out HD.out) ?_))
        have HS1 := Lib.hid (show Sos l n w (k + 1) (w2.setRow (w.heap.size + 1) #[u2, v2]) u2 v2 from {
          b0 := (setRow_other _ _ _ _ (by omega)).trans (HF2.out.heap HB0.out)
          b1 := setRow_heap _ _ _ _ _ _ B1
          own := HO.out
          dlg := HD.out
          fr := ((HFW.out.trans (Fr.drew _)).trans HF2.out).only (OnlyB.setRow _ _ _) (by omega) })
        go_roundw
        case rel => exact ⟨k + 1, u2, v2, by omega, by go_num, HS1⟩
        case measure => simp [intOf]; omega
      · have hz : (nm l[k] == n) = false := by simpa using he
        have HS1 := Lib.hid (show Sos l n w (k + 1) wr u v from { b0 := hS.out.b0, b1 := hS.out.b1, own := by rw [(std_ne hlt n he).1]; exact hS.out.own, dlg := by rw [(std_ne hlt n he).2]; exact hS.out.dlg, fr := hS.out.fr })
        clear hat hat2 HV HL he hS
        generalize nm l[k] = z at *
        go_wp2_with (go_at_call 30; refine HN.out.mono ?_; rintro e w1 ⟨rfl, rfl⟩)
        go_roundw
        case rel => exact ⟨k + 1, u, v, by omega, by go_num, HS1⟩
        case measure => simp [intOf]; omega
    · have hkl : k = l.length := by omega
      have hT : l.take k = l := by rw [hkl, List.take_length]
      have ho := hS.out.own
      have hd := hS.out.dlg
      rw [hT] at ho hd
      have HO := Lib.hid ho
      have HD := Lib.hid hd
      clear ho hd hT
      obtain ⟨p1, rfl⟩ := HO.out.one
      obtain ⟨p2, rfl⟩ := HD.out.one
      have b0 := hS.out.b0
      have h1 := cellOf hS.out.b1 (i := 0) (v := .pointer p1) rfl
      have h2 := cellOf hS.out.b1 (i := 1) (v := .pointer p2) rfl
      go_wp2_with (refine wpList_store_row rfl 64 (.tmp 4) (.tmp 24) rfl w.heap.size #[.pointer p1, .pointer p2] rfl rfl 64 _ b0 infoSt rfl (ones2 HO.out HD.out) ?_)
      have hf : Fr w (wr.setRow w.heap.size #[.pointer p1, .pointer p2]) := hS.out.fr.only (OnlyB.setRow _ _ _) (Nat.le_refl _)
      exact bodyPost_ret (v := .agg #[.pointer p1, .pointer p2]) (results_cell Try.results27 rfl (load_st (setRow_heap _ _ _ _ _ _ b0))) rfl ⟨_, _, rfl, HO.out, HD.out, hf⟩
end Go.Proofs.Ytddeblcoglhdnaa
