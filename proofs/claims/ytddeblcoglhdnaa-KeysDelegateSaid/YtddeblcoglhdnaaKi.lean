/-
  delegationSigns; ContainsFunc with the closure of may.
-/
import Derived.Test.YtddeblcoglhdnaaKh
namespace Go.Proofs.Ytddeblcoglhdnaa
open Go.RowKit Mb Go.BigFrame

set_option maxRecDepth 100000 in
set_option maxHeartbeats 1000000 in
theorem delegationSigns_any (v1 v2 u : Value) (y : Option Ft) (n : Nat) (b o : Nat) (f : Ft) (q : List Int) (w : World) (h1 : ∃ p, v1 = .pointer p) (h2 : Pt w v2 y) (h : FtAt w b o f) (hu : Sl w u q) (hq : Ok q) :
    Calls Try.prog 40 #[.agg #[v1, v2], .int .i64 n, .pointer (some ⟨b, o, none⟩), u] w fun e w' => e = .returned (.bool (dsg y n f q)) ∧ Fr w w' := by
  obtain ⟨p1, rfl⟩ := h1
  rcases h2 with ⟨rfl, rfl⟩ | ⟨b1, o1, g, rfl, rfl, hg, hgb⟩
  · have HF := Lib.hid (Fr.alloc w (.cells #[.pointer p1, .pointer none] 64))
    clear h hu hq
    show Calls _ _ _ _ fun e w' => e = .returned (.bool false) ∧ Fr w w'
    go_enter Try.func40, Try.ntmps40
    go_wp2_with fail
    go_quiet (fail)
    go_wp2_with fail
    go_ret
    exact ⟨rfl, HF.out.trans (Fr.drewN _ _)⟩
  have hf := Fr.alloc w (.cells #[.pointer p1, .pointer (some ⟨b1, o1, none⟩)] 64)
  have HF := Lib.hid hf
  have c0 := hf.cell h.kind
  have c25 := hf.cell hg.need
  have c26 := hf.cell hg.til
  obtain ⟨kv, c24', hkv⟩ := hg.keys
  have c24 := hf.cell c24'
  have HK := Lib.hid fun w' (hw : Fr w w') => sign_any kv u g.keys q g.need w' (hkv.fr hw) hgb.keys (hu.fr hw) hq
  have hd : dsg (some g) n f q = (decide (f.kind = 0) && decide ((n : Int) ≤ g.til) && decide (1 ≤ g.need) && sgn g q) := rfl
  rw [hd]
  unfold sgn
  clear h hu hq hkv c24' hf hg hgb hd
  by_cases k0 : f.kind = 0
  case neg =>
    have e0 : (f.kind == 0) = false := by simpa using k0
    rw [decide_eq_false k0]
    simp only [Bool.false_and]
    clear k0 HK
    go_enter Try.func40, Try.ntmps40
    go_wp2_with fail
    go_quiet (fail)
    go_wp2_with fail
    go_ret
    exact ⟨rfl, HF.out.trans (Fr.drewN _ _)⟩
  rw [decide_eq_true k0]
  rw [k0] at c0
  simp only [Bool.true_and]
  clear k0
  generalize g.til = tl at *
  by_cases k1 : (n : Int) ≤ tl
  case neg =>
    have e1 : decide ((n : Int) ≤ tl) = false := decide_eq_false k1
    rw [e1]
    simp only [Bool.false_and]
    clear k1 HK
    go_enter Try.func40, Try.ntmps40
    go_wp2_with fail
    go_quiet (fail)
    go_wp2_with fail
    go_ret
    exact ⟨rfl, HF.out.trans (Fr.drewN _ _)⟩
  have e1 : decide ((n : Int) ≤ tl) = true := decide_eq_true k1
  rw [e1]
  simp only [Bool.true_and]
  clear k1
  generalize g.need = nd at *
  by_cases k2 : 1 ≤ nd
  case neg =>
    have e2 : decide (1 ≤ nd) = false := decide_eq_false k2
    rw [e2]
    simp only [Bool.false_and]
    clear k2 HK
    go_enter Try.func40, Try.ntmps40
    go_wp2_with fail
    go_quiet (fail)
    go_wp2_with fail
    go_ret
    exact ⟨rfl, HF.out.trans (Fr.drewN _ _)⟩
  have e2 : decide (1 ≤ nd) = true := decide_eq_true k2
  rw [e2]
  simp only [Bool.true_and]
  clear k2
  generalize decide (nd ≤ (cnt g.keys q : Int)) = r at *
  go_enter Try.func40, Try.ntmps40
  go_upto_region 2 with fail
  generalize (w.alloc (.cells #[.pointer p1, .pointer (some ⟨b1, o1, none⟩)] 64)) = w0 at *
  refine wp_region_cls (D := Fr w0) (by kernel_rfl) (by kernel_rfl) (Fr.drew w0) ?_
  repeat (go_big_quiet_step (first
    | (intro hw'; with_reducible rfl)
    | (intro hw'; go_at_call 43; exact (HK.out _ (Fr.trans HF.out hw')).mono fun e w'' ⟨he, hf⟩ => ⟨he, Fr.trans hw' hf⟩)
    | (intro hw'; have g1 := Fr.cell hw' c0; simp only [g1]; exact ⟨rfl, rfl⟩)
    | (intro hw'; have g1 := Fr.cell hw' c24; simp only [g1]; exact ⟨rfl, rfl⟩)
    | (intro hw'; have g1 := Fr.cell hw' c25; simp only [g1]; exact ⟨rfl, rfl⟩)
    | (intro hw'; have g1 := Fr.cell hw' c26; simp only [g1]; exact ⟨rfl, rfl⟩)))
  refine wpQuiet_nil ?_
  intro wh hwh
  go_wp2_with fail
  go_ret
  exact ⟨rfl, HF.out.trans hwh⟩

/-! ### ContainsFunc -/
theorem closure_any (k : Int) (B M : Nat) (D : Int → Bool) (w : World) (hk : inI k) (hB : w.cell? ⟨B, 0, none⟩ = some (.map (some M))) (hS : SetIs w M D) :
    Calls Try.prog 38 #[.int .i64 k, .pointer (some ⟨B, 0, none⟩)] w fun e w' => e = .returned (.bool (D k)) ∧ w' = w := by
  have hlk := hS.look k hk
  generalize D k = d at *
  clear hS
  go_enter Try.func38, Try.ntmps38
  go_wp2_with fail
  go_ret
  exact ⟨rfl, rfl⟩
def IxP (r : Bool) (w : World) (e : Ending) (w' : World) : Prop := w' = w ∧ ∃ i : Int, e = .returned (.int .i64 i) ∧ decide (0 ≤ i) = r
set_option maxHeartbeats 1000000 in
set_option maxRecDepth 100000 in
theorem index_any (v : Value) (q : List Int) (B M : Nat) (D : Int → Bool) (w : World) (hv : Sl w v q) (hq : Ok q) (hB : w.cell? ⟨B, 0, none⟩ = some (.map (some M))) (hS : SetIs w M D) :
    Calls Try.prog 42 #[v, .func (.func 38) #[] #[.pointer (some ⟨B, 0, none⟩)]] w (IxP (q.any D) w) := by
  have hn := hq.len
  have HC := Lib.hid fun k (hk : inI k) => closure_any k B M D w hk hB hS
  have HQ := Lib.hid hq
  obtain ⟨av, ac, rfl⟩ := hv.len
  have HV := Lib.hid hv
  clear hq hv hB hS
  go_enter Try.func42, Try.ntmps42
  go_wp2_with fail
  go_loopw [8] (fun vi wr => ∃ i : Nat, i ≤ q.length ∧ vi = .int .i64 i ∧ Hid (q.any D = (q.drop i).any D) ∧ wr = w) (fun vi _ => q.length - (intOf vi).toNat)
  case atStart => exact ⟨0, Nat.zero_le _, rfl, Lib.hid rfl, rfl⟩
  case round =>
    obtain ⟨i, hi, rfl, hE, rfl⟩ := hrel
    by_cases hlt : i < q.length
    · obtain ⟨g, o, rfl, c1⟩ := HV.out.at i hlt
      have HCm := Lib.hid (HC.out q[i] (HQ.out.get hlt))
      have HD := Lib.hid (show q.any D = (D q[i] || (q.drop (i + 1)).any D) by rw [hE.out, List.drop_eq_getElem_cons hlt, List.any_cons])
      clear HC HV hE
      generalize D q[i] = d at *
      generalize q[i] = y at *
      cases d with
      | true =>
        have HR := Lib.hid (show q.any D = true by rw [HD.out]; rfl)
        clear HD
        go_wp2_with (go_at_call 38; refine HCm.out.mono ?_; rintro e w2 ⟨rfl, rfl⟩)
        go_ret
        exact ⟨rfl, _, rfl, by rw [HR.out]; simp⟩
      | false =>
        have HR := Lib.hid (show q.any D = (q.drop (i + 1)).any D by rw [HD.out]; rfl)
        clear HD
        go_wp2_with (go_at_call 38; refine HCm.out.mono ?_; rintro e w2 ⟨rfl, rfl⟩)
        go_roundw
        case rel => exact ⟨i + 1, by omega, by go_num, HR, trivial⟩
        case measure => simp [intOf]; omega
    · have hkl : i = q.length := by omega
      have HR := Lib.hid (show q.any D = false by rw [hE.out, hkl, List.drop_length]; rfl)
      clear hE
      go_wp2_with fail
      go_ret
      exact ⟨rfl, _, rfl, by rw [HR.out]; simp⟩
set_option maxRecDepth 100000 in
theorem containsF_any (v : Value) (q : List Int) (B M : Nat) (D : Int → Bool) (w : World) (hv : Sl w v q) (hq : Ok q) (hB : w.cell? ⟨B, 0, none⟩ = some (.map (some M))) (hS : SetIs w M D) :
    Calls Try.prog 37 #[v, .func (.func 38) #[] #[.pointer (some ⟨B, 0, none⟩)]] w fun e w' => e = .returned (.bool (q.any D)) ∧ w' = w := by
  have H := Lib.hid (index_any v q B M D w hv hq hB hS)
  clear hv hq hB hS
  generalize q.any D = r at *
  go_enter Try.func37, Try.ntmps37
  go_wp2_with (go_at_call 42; refine H.out.mono ?_; rintro e w2 ⟨rfl, i, rfl, hi⟩; have HI := Lib.hid hi; clear hi)
  go_ret
  rw [← HI.out]
  exact ⟨rfl, rfl⟩
end Go.Proofs.Ytddeblcoglhdnaa
