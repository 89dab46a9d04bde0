/-
  set, sign, Count.
-/
import Derived.Test.YtddeblcoglhdnaaKc
namespace Go.Proofs.Ytddeblcoglhdnaa
open Go.RowKit Mb

theorem Fr.only {M : Nat} {a b c : World} (h : Fr a b) (ho : OnlyB M b c) (hM : a.heap.size ≤ M) : Fr a c :=
  ⟨ho.1.trans h.os, ho.2.1.trans h.tape, ho.2.2.1.trans h.output, by rw [ho.size]; exact h.size, fun k hk _ => by
    rw [ho.block (by omega)]; exact h.block hk⟩
/-- The cells of a slice, by the value's address. -/
theorem Sl.at {w : World} {av : Option Addr} {n c : Nat} {l : List Int} (h : Sl w (.slice av n c) l) (k : Nat) (hk : k < l.length) : ∃ g o, av = some ⟨g, o, none⟩ ∧ w.cell? ⟨g, o + k, none⟩ = some (.int .i64 l[k]) := by
  rcases h.cases with ⟨rfl, _⟩ | ⟨g, o, c, hv, hc⟩
  · simp at hk
  · cases hv; exact ⟨g, o, rfl, hc k hk⟩

def SetP (l : List Int) (w : World) (e : Ending) (w' : World) : Prop := ∃ M, e = .returned (.map (some M)) ∧ SetIs w' M (fun t => decide (t ∈ l)) ∧ w.heap.size ≤ M ∧ Fr w w'
set_option maxRecDepth 100000 in
set_option maxHeartbeats 1000000 in
theorem set_any (v : Value) (l : List Int) (w : World) (h : Sl w v l) (hl : Ok l) : Calls Try.prog 29 #[v] w (SetP l w) := by
  have HL := Lib.hid hl
  have hn := hl.len
  obtain ⟨av, ac, rfl⟩ := h.len
  have HA := Lib.hid h
  have HF0 := Lib.hid (Fr.alloc w (.map #[] 0))
  have HS0 := Lib.hid (SetIs.new w)
  have hM : w.heap.size < (w.alloc (.map #[] 0)).heap.size := by simp
  clear h hl
  have hmm := @run_makeMap Try.prog
  go_enter Try.func29, Try.ntmps29
  go_wp2_with fail
  clear hmm
  generalize (w.alloc (.map #[] 0)) = w0 at *
  go_loopw [9] (fun n wr => ∃ k : Nat, k ≤ l.length ∧ n = .int .i64 k ∧ Hid (SetIs wr w.heap.size (fun t => decide (t ∈ l.take k))) ∧ Hid (Fr w wr)) (fun n _ => l.length - (intOf n).toNat)
  case atStart => exact ⟨0, Nat.zero_le _, rfl, Lib.hid (HS0.out.congr fun t => by simp), HF0⟩
  case round =>
    obtain ⟨k, hk, rfl, hS, hF⟩ := hrel
    by_cases hlt : k < l.length
    · obtain ⟨g1, o1, rfl, c1'⟩ := HA.out.at k hlt
      have c1 := hF.out.cell c1'
      obtain ⟨w1, hup, hS1, ho⟩ := hS.out.put l[k] (HL.out.get hlt)
      have HS1 := Lib.hid (hS1.congr (D' := fun t => decide (t ∈ l.take (k + 1))) fun t => by
        rw [take_snoc hlt, Bool.eq_iff_iff]
        simp only [List.mem_append, List.mem_singleton, Bool.or_eq_true, decide_eq_true_eq]
        exact Or.comm)
      have HF1 := Lib.hid (hF.out.only ho (Nat.le_refl _))
      clear c1' hS1 ho HA hS
      generalize l[k] = y at *
      go_wp2_with fail
      go_roundw
      case rel => exact ⟨k + 1, by omega, by go_num, HS1, HF1⟩
      case measure => simp [intOf]; omega
    · have hkl : k = l.length := by omega
      have HR := Lib.hid (hS.out.congr (D' := fun t => decide (t ∈ l)) fun t => by rw [hkl, List.take_length])
      clear hS
      go_wp2_with fail
      go_ret
      exact ⟨_, rfl, HR.out, Nat.le_refl _, hF.out⟩

set_option maxRecDepth 100000 in
set_option maxHeartbeats 1000000 in
theorem sign_any (v u : Value) (ks q : List Int) (need : Int) (w : World) (hv : Sl w v ks) (hk : Ok ks) (hu : Sl w u q) (hq : Ok q) :
    Calls Try.prog 43 #[v, .int .i64 need, u] w fun e w' => e = .returned (.bool (decide (need ≤ cnt ks q))) ∧ Fr w w' := by
  have HQ := Lib.hid hq
  have hn := hq.len
  have K1 := Lib.hid (set_any v ks w hv hk)
  obtain ⟨av, ac, rfl⟩ := hu.len
  have HU := Lib.hid hu
  clear hu hq hv hk
  go_enter Try.func43, Try.ntmps43
  go_wp2_with (go_at_call 29; refine K1.out.mono ?_; rintro e w0 ⟨M, rfl, hS, hM, hf⟩; have HS0 := Lib.hid hS; have HF0 := Lib.hid hf; clear hS hf)
  go_loopw [15, 8] (fun n m wr => ∃ k : Nat, k ≤ q.length ∧ n = .int .i64 k ∧ m = .int .i64 (cnt ks (q.take k)) ∧ Hid (SetIs wr M (fun t => decide (t ∈ ks) && !decide (t ∈ q.take k))) ∧ Hid (Fr w wr)) (fun n _ _ => q.length - (intOf n).toNat)
  case atStart => exact ⟨0, Nat.zero_le _, rfl, rfl, Lib.hid (HS0.out.congr fun t => by simp), HF0⟩
  case round =>
    obtain ⟨k, hk, rfl, rfl, hS, hF⟩ := hrel
    by_cases hlt : k < q.length
    · obtain ⟨g1, o1, rfl, c1'⟩ := HU.out.at k hlt
      have c1 := hF.out.cell c1'
      have hlk := hS.out.look q[k] (HQ.out.get hlt)
      have hs := cnt_succ ks hlt
      have hc1 := cnt_len ks (q.take k)
      rw [List.length_take] at hc1
      by_cases hd : q[k] ∈ ks ∧ q[k] ∉ q.take k
      · rw [if_pos hd] at hs
        have hd' : (decide (q[k] ∈ ks) && !decide (q[k] ∈ q.take k)) = true := by simp [hd.1, hd.2]
        obtain ⟨w1, hdl, hS1, ho⟩ := hS.out.del q[k] (HQ.out.get hlt)
        have HS1 := Lib.hid (hS1.congr (D' := fun t => decide (t ∈ ks) && !decide (t ∈ q.take (k + 1))) fun t => by
          rw [take_snoc hlt, Bool.eq_iff_iff]
          simp only [List.mem_append, List.mem_singleton, Bool.and_eq_true, Bool.not_eq_true', decide_eq_true_eq, decide_eq_false_iff_not, not_or]
          exact ⟨fun h => ⟨h.2.2, h.1, h.2.1⟩, fun h => ⟨h.2.1, h.2.2, h.1⟩⟩)
        have HF1 := Lib.hid (hF.out.only ho hM)
        simp only [hd'] at hlk
        have HCN := Lib.hid hs
        clear c1' hS1 ho HU hS hd hd' hs
        generalize q[k] = y at *
        generalize cnt ks (q.take k) = cn at *
        go_wp2_with fail
        go_roundw
        case rel => exact ⟨k + 1, by omega, by go_num, by rw [HCN.out]; go_num, HS1, HF1⟩
        case measure => simp [intOf]; omega
      · rw [if_neg hd] at hs
        have hd' : (decide (q[k] ∈ ks) && !decide (q[k] ∈ q.take k)) = false := by
          cases hx : decide (q[k] ∈ ks) <;> cases hy : decide (q[k] ∈ q.take k) <;> simp_all
        have HS1 := Lib.hid (hS.out.congr (D' := fun t => decide (t ∈ ks) && !decide (t ∈ q.take (k + 1))) fun t => by
          rw [take_snoc hlt, Bool.eq_iff_iff]
          simp only [List.mem_append, List.mem_singleton, Bool.and_eq_true, Bool.not_eq_true', decide_eq_true_eq, decide_eq_false_iff_not, not_or]
          refine ⟨fun h => ⟨h.1, h.2.1⟩, fun h => ⟨h.1, h.2, ?_⟩⟩
          rintro rfl
          exact hd h)
        simp only [hd'] at hlk
        have HCN := Lib.hid hs
        clear c1' HU hS hd hd' hs
        generalize q[k] = y at *
        generalize cnt ks (q.take k) = cn at *
        go_wp2_with fail
        go_roundw
        case rel => exact ⟨k + 1, by omega, by go_num, by rw [HCN.out], HS1, hF⟩
        case measure => simp [intOf]; omega
    · have hkl : k = q.length := by omega
      have hkl' : q.take k = q := by rw [hkl, List.take_length]
      rw [hkl']
      generalize hg : cnt ks q = cn
      have HG := Lib.hid hg
      clear hg
      go_wp2_with fail
      go_ret
      rw [HG.out]
      exact ⟨rfl, hF.out⟩
end Go.Proofs.Ytddeblcoglhdnaa
