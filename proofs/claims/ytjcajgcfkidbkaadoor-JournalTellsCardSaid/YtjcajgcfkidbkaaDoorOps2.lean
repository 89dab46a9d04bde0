/-
  Package disk: Sync, Truncate.
-/
import Derived.Test.YtjcajgcfkidbkaaDoorOps
namespace Go.Proofs.YtjcajgcfkidbkaaDoor
open Go.RowKit

def isF (f : Int) : Prop := 0 ≤ f ∧ f < 16
instance (f : Int) : Decidable (isF f) := by unfold isF; exact inferInstance
def syncS (s : RS) (f : Int) : RS := if s.down then s else if (strikeS s).down then strikeS s else if ¬ isF f then strikeS s else if 0 < (strikeS s).lost then { strikeS s with lost := (strikeS s).lost - 1 } else settleS (strikeS s) f.toNat
def syncE (s : RS) (f : Int) : Int := if s.down then 8 else if (strikeS s).down then 8 else if ¬ isF f then 1 else if 0 < (strikeS s).lost then 9 else 0
def truncS (s : RS) (f size : Int) : RS := if s.down then s else if (strikeS s).down then strikeS s else if ¬ (isF f ∧ 0 ≤ size ∧ size ≤ (strikeS s).sz f.toNat) then strikeS s else cutS (settleS (strikeS s) f.toNat) f.toNat size.toNat
def truncE (s : RS) (f size : Int) : Int := if s.down then 8 else if (strikeS s).down then 8 else if ¬ (isF f ∧ 0 ≤ size ∧ size ≤ (strikeS s).sz f.toNat) then 1 else 0

theorem inv_lost {s : RS} (h : Inv s) (n : Nat) : Inv { s with lost := n } := ⟨h.nodup, h.inQ, h.pd, h.nz, h.dz0, h.le, h.max, h.eq⟩
theorem inv_sync {s : RS} (h : Inv s) (f : Int) : Inv (syncS s f) := by
  unfold syncS
  have h1 := inv_strike h
  split; exact h
  split; exact h1
  split; exact h1
  split; exact inv_lost h1 _
  exact inv_settle h1 _
theorem inv_trunc {s : RS} (h : Inv s) (f size : Int) : Inv (truncS s f size) := by
  unfold truncS
  have h1 := inv_strike h
  split; exact h
  split; exact h1
  split; exact h1
  rename_i hh
  have hh := Classical.not_not.1 hh
  refine inv_cut (inv_settle h1 _) _ _ ?_ (fun n => ?_)
  · show size.toNat ≤ (strikeS s).sz f.toNat; omega
  · dsimp only [settleS]; rw [if_pos rfl]

set_option maxHeartbeats 1000000 in
set_option maxRecDepth 100000 in
theorem sync_any (O : Nat → Prop) (B : Nat) (f : Int) (s : RS) (w : World) (h : Dk w O B s) (hI : Inv s) (hc : s.calls ≤ 9223372036854775807) (hl : (strikeS s).lost ≤ 9223372036854775807) :
    Calls Tryd.prog 46 #[.pointer (some ⟨B, 0, none⟩), .int .i64 f] w fun e w' => e = .returned (.int .i64 (syncE s f)) ∧ DkP O w w' B (syncS s f) := by
  obtain ⟨M, C, pv, kv, hd⟩ := id h
  have c37 := cellOf hd.heap hd.blk.down
  clear hd
  rcases hdn : s.down with _ | _
  · rw [hdn] at c37
    have hst := strikes_any O B s w h hI hc
    have HST := Lib.hid hst
    have HDN := Lib.hid hdn
    have HI := Lib.hid (inv_strike hI)
    clear hdn hst h hI
    rcases hb : (strikeS s).down with _ | _
    · rw [hb] at HST
      by_cases hf : 0 ≤ f ∧ f < 16
      · obtain ⟨fn, rfl⟩ : ∃ fn : Nat, f = fn := ⟨f.toNat, by omega⟩
        have hfn : fn < 16 := by omega
        obtain ⟨ls, hls⟩ : ∃ ls, ls = (strikeS s).lost := ⟨_, rfl⟩
        rw [← hls] at hl
        by_cases hlo : 0 < ls
        · have hE : syncE s fn = 9 := by unfold syncE isF; rw [HDN.out, hb, if_neg Bool.false_ne_true, if_neg Bool.false_ne_true, if_neg (by omega), if_pos (by omega)]
          have hS : syncS s fn = { strikeS s with lost := ls - 1 } := by unfold syncS isF; rw [HDN.out, hb, if_neg Bool.false_ne_true, if_neg Bool.false_ne_true, if_neg (by omega), if_pos (by omega), hls]
          rw [hE, hS]
          have HLS := Lib.hid hls
          clear hE hS hb hls
          go_enter Tryd.func46, Tryd.ntmps46
          go_wp2_with fail
          refine HST.out.mono ?_
          rintro e w1 ⟨rfl, O1, ⟨M1, C1, pv1, kv1, hd1⟩, hG, hW⟩
          have c34 := cellOf hd1.heap hd1.blk.lost
          rw [← HLS.out] at c34
          have f34 := frozenOf hd1.heap 34
          have d1 := hd1.setB (s' := { strikeS s with lost := ls - 1 }) 34 (.int .i64 ((ls - 1 : Nat) : Int)) (hd1.blk.setLost (ls - 1)) (fun _ _ _ => rfl) rfl rfl
          have o1 := hd1.own_setB 34 (.int .i64 ((ls - 1 : Nat) : Int))
          rw [show ((ls - 1 : Nat) : Int) = (ls : Int) - 1 by omega] at d1 o1
          have D1 := Lib.hid d1
          have O1' := Lib.hid o1
          have HG := Lib.hid hG
          have HW := Lib.hid hW
          clear d1 o1 hG hW hd1
          go_wp2_with (go_at_call 60; refine (isFile_yes fn _ (by omega) (by omega)).mono ?_; rintro e w' ⟨rfl, rfl⟩)
          go_ret
          exact ⟨rfl, DkP.comb HG.out HW.out ⟨O1, ⟨M1, _, pv1, kv1, D1.out⟩, Gr.self, O1'.out⟩⟩
        · have hE : syncE s fn = 0 := by unfold syncE isF; rw [HDN.out, hb, if_neg Bool.false_ne_true, if_neg Bool.false_ne_true, if_neg (by omega), if_neg (by omega)]
          have hS : syncS s fn = settleS (strikeS s) fn := by unfold syncS isF; rw [HDN.out, hb, if_neg Bool.false_ne_true, if_neg Bool.false_ne_true, if_neg (by omega), if_neg (by omega)]; rfl
          rw [hE, hS]
          have HLS := Lib.hid hls
          clear hE hS hb hls
          go_enter Tryd.func46, Tryd.ntmps46
          go_wp2_with fail
          refine HST.out.mono ?_
          rintro e w1 ⟨rfl, O1, ⟨M1, C1, pv1, kv1, hd1⟩, hG, hW⟩
          have c34 := cellOf hd1.heap hd1.blk.lost
          rw [← HLS.out] at c34
          have HD1 := Lib.hid hd1
          have HG := Lib.hid hG
          have HW := Lib.hid hW
          clear hd1 hG hW
          go_wp2_with (go_at_call 60; refine (isFile_yes fn _ (by omega) (by omega)).mono ?_; rintro e w' ⟨rfl, rfl⟩)
          refine (settle_any O1 B fn (strikeS s) _ ⟨M1, C1, pv1, kv1, HD1.out⟩ HI.out hfn).mono ?_
          rintro e w2 ⟨rfl, hP⟩
          have HP := Lib.hid (DkP.comb HG.out HW.out hP)
          clear hP
          go_wp2_with fail
          go_ret
          exact ⟨rfl, HP.out⟩
      · have hE : syncE s f = 1 := by unfold syncE isF; rw [HDN.out, hb, if_neg Bool.false_ne_true, if_neg Bool.false_ne_true, if_pos hf]
        have hS : syncS s f = strikeS s := by unfold syncS isF; rw [HDN.out, hb, if_neg Bool.false_ne_true, if_neg Bool.false_ne_true, if_pos hf]
        rw [hE, hS]
        have hf' : f < 0 ∨ 16 ≤ f := by omega
        have HF := Lib.hid hf'
        clear hE hS hb hf hf'
        go_enter Tryd.func46, Tryd.ntmps46
        go_wp2_with fail
        refine HST.out.mono ?_
        rintro e w1 ⟨rfl, hP⟩
        have HP := Lib.hid hP
        clear hP
        go_wp2_with (go_at_call 60; refine (isFile_no f _ HF.out).mono ?_; rintro e w' ⟨rfl, rfl⟩)
        go_ret
        exact ⟨rfl, HP.out⟩
    · rw [hb] at HST
      have hE : syncE s f = 8 := by unfold syncE; rw [HDN.out, hb, if_neg Bool.false_ne_true, if_pos rfl]
      have hS : syncS s f = strikeS s := by unfold syncS; rw [HDN.out, hb, if_neg Bool.false_ne_true, if_pos rfl]
      rw [hE, hS]
      clear hE hS hb
      go_enter Tryd.func46, Tryd.ntmps46
      go_wp2_with fail
      refine HST.out.mono ?_
      rintro e w1 ⟨rfl, hP⟩
      have HP := Lib.hid hP
      clear hP
      go_wp2_with fail
      go_ret
      exact ⟨rfl, HP.out⟩
  · rw [hdn] at c37
    have hE : syncE s f = 8 := by unfold syncE; rw [hdn]; rfl
    have hS : syncS s f = s := by unfold syncS; rw [hdn]; rfl
    rw [hE, hS]
    have HK := Lib.hid h
    clear hE hS hdn h hI
    go_enter Tryd.func46, Tryd.ntmps46
    go_wp2_with fail
    go_ret
    exact ⟨rfl, .refl HK.out⟩

set_option maxHeartbeats 1000000 in
set_option maxRecDepth 100000 in
theorem trunc_any (O : Nat → Prop) (B : Nat) (f size : Int) (s : RS) (w : World) (h : Dk w O B s) (hI : Inv s) (hc : s.calls ≤ 9223372036854775807) :
    Calls Tryd.prog 48 #[.pointer (some ⟨B, 0, none⟩), .int .i64 f, .int .i64 size] w fun e w' => e = .returned (.int .i64 (truncE s f size)) ∧ DkP O w w' B (truncS s f size) := by
  obtain ⟨M, C, pv, kv, hd⟩ := id h
  have c37 := cellOf hd.heap hd.blk.down
  clear hd
  rcases hdn : s.down with _ | _
  · rw [hdn] at c37
    have hst := strikes_any O B s w h hI hc
    have HST := Lib.hid hst
    have HDN := Lib.hid hdn
    have HI := Lib.hid (inv_strike hI)
    clear hdn hst h hI
    rcases hb : (strikeS s).down with _ | _
    · rw [hb] at HST
      by_cases hf : 0 ≤ f ∧ f < 16
      · obtain ⟨fn, rfl⟩ : ∃ fn : Nat, f = fn := ⟨f.toNat, by omega⟩
        have hfn : fn < 16 := by omega
        obtain ⟨z, hz⟩ : ∃ z, z = (strikeS s).sz fn := ⟨_, rfl⟩
        have hzm : z ≤ 16777216 := by rw [hz]; exact HI.out.max fn
        by_cases hlo : 0 ≤ size ∧ size ≤ z
        · obtain ⟨sn, rfl⟩ : ∃ sn : Nat, size = sn := ⟨size.toNat, by omega⟩
          have hE : truncE s fn sn = 0 := by unfold truncE isF; rw [HDN.out, hb, if_neg Bool.false_ne_true, if_neg Bool.false_ne_true, if_neg (by rw [show ((fn : Int)).toNat = fn from rfl, ← hz]; omega)]
          have hS : truncS s fn sn = cutS (settleS (strikeS s) fn) fn sn := by unfold truncS isF; rw [HDN.out, hb, if_neg Bool.false_ne_true, if_neg Bool.false_ne_true, if_neg (by rw [show ((fn : Int)).toNat = fn from rfl, ← hz]; omega)]; rfl
          rw [hE, hS]
          have HZ := Lib.hid hz
          clear hE hS hb hz
          go_enter Tryd.func48, Tryd.ntmps48
          go_wp2_with fail
          refine HST.out.mono ?_
          rintro e w1 ⟨rfl, O1, ⟨M1, C1, pv1, kv1, hd1⟩, hG, hW⟩
          have csz := cellOf hd1.heap (hd1.blk.sz fn hfn)
          rw [← HZ.out] at csz
          have HD1 := Lib.hid hd1
          have HG := Lib.hid hG
          have HW := Lib.hid hW
          clear hd1 hG hW
          go_wp2_with (go_at_call 60; refine (isFile_yes fn _ (by omega) (by omega)).mono ?_; rintro e w' ⟨rfl, rfl⟩)
          refine (settle_any O1 B fn (strikeS s) _ ⟨M1, C1, pv1, kv1, HD1.out⟩ HI.out hfn).mono ?_
          rintro e w2 ⟨rfl, O2, hD2, hG2, hW2⟩
          have HD2 := Lib.hid hD2
          have HG2 := Lib.hid hG2
          have HW2 := Lib.hid hW2
          clear hD2 hG2 hW2
          go_wp2_with fail
          refine (cut_any O2 B fn sn (settleS (strikeS s) fn) _ HD2.out (inv_settle HI.out fn) hfn (by show sn ≤ (strikeS s).sz fn; rw [← HZ.out]; omega) (fun n => by dsimp only [settleS]; rw [if_pos rfl])).mono ?_
          rintro e w3 ⟨rfl, hP⟩
          have HP := Lib.hid (DkP.comb HG.out HW.out (DkP.comb HG2.out HW2.out hP))
          clear hP
          go_wp2_with fail
          go_ret
          exact ⟨rfl, HP.out⟩
        · have hE : truncE s fn size = 1 := by unfold truncE isF; rw [HDN.out, hb, if_neg Bool.false_ne_true, if_neg Bool.false_ne_true, if_pos (by rw [show ((fn : Int)).toNat = fn from rfl, ← hz]; omega)]
          have hS : truncS s fn size = strikeS s := by unfold truncS isF; rw [HDN.out, hb, if_neg Bool.false_ne_true, if_neg Bool.false_ne_true, if_pos (by rw [show ((fn : Int)).toNat = fn from rfl, ← hz]; omega)]
          rw [hE, hS]
          have HZ := Lib.hid hz
          clear hE hS hb hz
          by_cases hneg : size < 0
          · go_enter Tryd.func48, Tryd.ntmps48
            go_wp2_with fail
            refine HST.out.mono ?_
            rintro e w1 ⟨rfl, hP⟩
            have HP := Lib.hid hP
            clear hP
            go_wp2_with (go_at_call 60; refine (isFile_yes fn _ (by omega) (by omega)).mono ?_; rintro e w' ⟨rfl, rfl⟩)
            go_ret
            exact ⟨rfl, HP.out⟩
          · have hbig : (z : Int) < size := by omega
            have hnn : ¬ (size < 0) := hneg
            clear hlo
            go_enter Tryd.func48, Tryd.ntmps48
            go_wp2_with fail
            refine HST.out.mono ?_
            rintro e w1 ⟨rfl, O1, ⟨M1, C1, pv1, kv1, hd1⟩, hG, hW⟩
            have csz := cellOf hd1.heap (hd1.blk.sz fn hfn)
            rw [← HZ.out] at csz
            have HD1 := Lib.hid hd1
            have HG := Lib.hid hG
            have HW := Lib.hid hW
            clear hd1 hG hW
            go_wp2_with (go_at_call 60; refine (isFile_yes fn _ (by omega) (by omega)).mono ?_; rintro e w' ⟨rfl, rfl⟩)
            go_ret
            exact ⟨rfl, O1, ⟨M1, C1, pv1, kv1, HD1.out⟩, HG.out, HW.out⟩
      · have hE : truncE s f size = 1 := by unfold truncE isF; rw [HDN.out, hb, if_neg Bool.false_ne_true, if_neg Bool.false_ne_true, if_pos (by omega)]
        have hS : truncS s f size = strikeS s := by unfold truncS isF; rw [HDN.out, hb, if_neg Bool.false_ne_true, if_neg Bool.false_ne_true, if_pos (by omega)]
        rw [hE, hS]
        have hf' : f < 0 ∨ 16 ≤ f := by omega
        have HF := Lib.hid hf'
        clear hE hS hb hf hf'
        go_enter Tryd.func48, Tryd.ntmps48
        go_wp2_with fail
        refine HST.out.mono ?_
        rintro e w1 ⟨rfl, hP⟩
        have HP := Lib.hid hP
        clear hP
        go_wp2_with (go_at_call 60; refine (isFile_no f _ HF.out).mono ?_; rintro e w' ⟨rfl, rfl⟩)
        go_ret
        exact ⟨rfl, HP.out⟩
    · rw [hb] at HST
      have hE : truncE s f size = 8 := by unfold truncE; rw [HDN.out, hb, if_neg Bool.false_ne_true, if_pos rfl]
      have hS : truncS s f size = strikeS s := by unfold truncS; rw [HDN.out, hb, if_neg Bool.false_ne_true, if_pos rfl]
      rw [hE, hS]
      clear hE hS hb
      go_enter Tryd.func48, Tryd.ntmps48
      go_wp2_with fail
      refine HST.out.mono ?_
      rintro e w1 ⟨rfl, hP⟩
      have HP := Lib.hid hP
      clear hP
      go_wp2_with fail
      go_ret
      exact ⟨rfl, HP.out⟩
  · rw [hdn] at c37
    have hE : truncE s f size = 8 := by unfold truncE; rw [hdn]; rfl
    have hS : truncS s f size = s := by unfold truncS; rw [hdn]; rfl
    rw [hE, hS]
    have HK := Lib.hid h
    clear hE hS hdn h hI
    go_enter Tryd.func48, Tryd.ntmps48
    go_wp2_with fail
    go_ret
    exact ⟨rfl, .refl HK.out⟩
end Go.Proofs.YtjcajgcfkidbkaaDoor
