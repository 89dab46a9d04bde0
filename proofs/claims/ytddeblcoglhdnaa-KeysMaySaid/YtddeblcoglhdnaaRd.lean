/-
  The reference's May.
-/
import Derived.Test.YtddeblcoglhdnaaRc
namespace Go.Proofs.Ytddeblcoglhdnaa
open Go.RowKit Mb Go.BigFrame

theorem anyR_cnt (reg q : List Int) : anyR reg q = !decide (cnt reg q = 0) := by
  unfold anyR
  rw [Bool.eq_iff_iff]
  simp only [List.any_eq_true, decide_eq_true_eq, Bool.not_eq_true', decide_eq_false_iff_not, cnt_pos]
  constructor
  · rintro ⟨x, h1, h2⟩ h; exact h x h1 h2
  · intro h
    refine Classical.byContradiction fun hn => h fun x hx hr => hn ⟨x, hx, hr⟩
section
variable {ops : Array Oper} {rest : List Oper} {op : Oper} {a : Act} {w : World} {Q : Exit → Act → World → Prop}
/-- A whole fact is loaded. -/
theorem wpList_load_fact (hw : Region.wanted op (yielded ops a.tmps) = true) (x : Operand) (hop : op.op = .load 39 x) (b o : Nat) (f : Ft) (hx : a.eval x = .pointer (some ⟨b, o, none⟩)) (hat : FtAt w b o f)
    (h : wpList Try.prog ops Q rest (a.put op.dst f.v) w) : wpList Try.prog ops Q (op :: rest) a w := by
  refine wpList_step fun K hk => ?_
  rw [if_pos hw]
  exact wp_load_mid 39 x hop b o hx f.cs _ hat.at' Try.underlying39 rfl (by rw [hat.ok.len]; exact infoF1) (hk _ _ h)
end
theorem dlg_mem {l : List Ft} {n : Txt} (hl : LB l) {g : Ft} (h : dlg l n = some g) : FB g := by
  revert h
  refine rev_ind (P := fun l => LB l → dlg l n = some g → FB g) (fun _ h => by cases h) (fun l f ih hl h => ?_) l hl
  rw [dlg_snoc] at h
  have hl2 : LB l := ⟨by have := hl.len; simp at this; omega, fun f hf => hl.mem f (by simp [hf])⟩
  split at h
  · cases h
  · split at h
    · cases h; exact hl.mem _ (by simp)
    · exact ih hl2 h
theorem rgt_in {f : Ft} (h : f.kind = 4 ∨ f.kind = 5 ∨ f.kind = 6) : rgt f = rrB f := by
  unfold rgt; rw [if_pos h, rr_eq]
theorem rgt_out {f : Ft} (h : ¬ (f.kind = 4 ∨ f.kind = 5 ∨ f.kind = 6)) : rgt f = (decide (0 ≤ f.kind) && decide (f.kind < 8)) := by
  unfold rgt; rw [if_neg h]
set_option maxRecDepth 100000 in
set_option maxHeartbeats 4000000 in
theorem rmay_err (v r u : Value) (l : List Ft) (reg : List Int) (f : Ft) (q : List Int) (w : World) (hf : FtOk w f) (hb : FB f) (hE : rgt f = false) :
    Calls Try.prog 22 #[v, r, f.v, u] w fun e w' => e = .returned (.int .i64 (may l reg f q)) ∧ Fr w w' := by
  have hA := FtAt.new hf 39
  have HF0 := Lib.hid (Fr.alloc w (.cells f.cs.toArray 39))
  have HA := Lib.hid hA
  have HRG := Lib.hid fun w' (hw' : Fr w w') => rright_any f w' (hf.fr hw') hb
  have c0 := hA.kind
  have hm : may l reg f q = 1 := myE_arg hE
  rw [hm]
  by_cases hk : f.kind = 4 ∨ f.kind = 5 ∨ f.kind = 6
  · rw [rgt_in hk] at hE
    rw [hE] at HRG
    clear hA hf hb hE hm
    unfold Ft.v
    rcases hk with hk | hk | hk
    all_goals
      rw [hk] at c0
      clear hk
      go_enter Try.func22, Try.ntmps22
      go_upto_region 1 with fail
      generalize (w.alloc (.cells f.cs.toArray 39)) = w0 at *
      go_wp2_with (first
        | (refine wpList_load_fact (by rfl) (.tmp 6) rfl w.heap.size 0 f (by rfl) HA.out ?_)
        | (go_at_call 34; refine (HRG.out _ HF0.out).mono ?_; rintro e w1 ⟨rfl, hf1⟩))
      go_ret
      exact ⟨rfl, HF0.out.trans hf1⟩
  · rw [rgt_out hk] at hE
    clear hA hf hb hm HRG HA
    unfold Ft.v
    by_cases h0 : f.kind < 0
    · have d0 : decide (f.kind < 0) = true := decide_eq_true h0
      generalize f.kind = kd at *
      clear hE hk h0
      go_enter Try.func22, Try.ntmps22
      go_wp2_with fail
      go_ret
      exact ⟨rfl, HF0.out⟩
    · have d0 : decide (f.kind < 0) = false := decide_eq_false h0
      have d8 : decide (8 ≤ f.kind) = true := decide_eq_true (by
        rw [decide_eq_true (by omega : 0 ≤ f.kind), Bool.true_and, decide_eq_false_iff_not] at hE; omega)
      generalize f.kind = kd at *
      clear hE hk h0
      go_enter Try.func22, Try.ntmps22
      go_wp2_with fail
      go_ret
      exact ⟨rfl, HF0.out⟩
end Go.Proofs.Ytddeblcoglhdnaa
