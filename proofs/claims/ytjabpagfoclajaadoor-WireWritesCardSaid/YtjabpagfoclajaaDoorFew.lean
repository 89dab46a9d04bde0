/-
  Contract: few.
-/
import Derived.Test.YtjabpagfoclajaaDoorSmall
import Derived.IntWalk
namespace Go.Proofs.YtjabpagfoclajaaDoor
open Go.RowKit

/-- Element k of a slice of Values. -/
structure At (w : World) (b o : Nat) (v : V) : Prop where
  c0 : w.cell? ⟨b, o, none⟩ = some (.int .i64 v.kd)
  c1 : w.cell? ⟨b, o + 1, none⟩ = some (.int .i64 v.n)
  c2 : w.cell? ⟨b, o + 2, none⟩ = some (.string (S v.s))
  c3 : w.cell? ⟨b, o + 3, none⟩ = some v.lv
  c4 : w.cell? ⟨b, o + 4, none⟩ = some v.tv
  ok : v.ok w
theorem At.fr {w w' : World} {b o : Nat} {v : V} (h : At w b o v) (hf : Fr w w') : At w' b o v :=
  ⟨hf.cell h.c0, hf.cell h.c1, hf.cell h.c2, hf.cell h.c3, hf.cell h.c4, h.ok.fr hf⟩

/-- How many bytes and elements a Value has. -/
def tsum (t : List (List UInt8)) : Nat := (t.map List.length).sum
def V.size (v : V) : Nat := v.s.length + v.l.length + v.t.length + tsum v.t
def vsum (vs : List V) : Nat := (vs.map V.size).sum
theorem tsum_take (t : List (List UInt8)) (k : Nat) (h : k < t.length) : tsum (t.take (k + 1)) = tsum (t.take k) + t[k].length := by
  unfold tsum; rw [Wm.take_succ t k h, List.map_append, List.sum_append]; rfl
theorem vsum_take (t : List V) (k : Nat) (h : k < t.length) : vsum (t.take (k + 1)) = vsum (t.take k) + t[k].size := by
  unfold vsum; rw [Wm.take_succ t k h, List.map_append, List.sum_append]; rfl
open Classical in
/-- What few returns. -/
noncomputable def fewB (vs : List V) : Bool := decide (vs.length ≤ 20 ∧ (∀ v ∈ vs, v.few) ∧ vsum vs ≤ 400)
open Classical in
theorem fewB_true {vs : List V} (h : fewB vs = true) : vs.length ≤ 20 ∧ (∀ v ∈ vs, v.few) ∧ vsum vs ≤ 400 := by unfold fewB at h; exact of_decide_eq_true h
open Classical in
theorem fewB_no {vs : List V} (h : ¬ (vs.length ≤ 20 ∧ (∀ v ∈ vs, v.few) ∧ vsum vs ≤ 400)) : fewB vs = false := by unfold fewB; exact decide_eq_false h
theorem fewB_one {vs : List V} {v : V} (hm : v ∈ vs) (h : ¬ v.few) : fewB vs = false := fewB_no (fun hh => h (hh.2.1 v hm))
open Classical in
theorem fewB_all {vs : List V} (h1 : vs.length ≤ 20) (h2 : ∀ v ∈ vs, v.few) : decide ((vsum vs : Int) ≤ 400) = fewB vs := by
  unfold fewB
  by_cases h : vsum vs ≤ 400
  · rw [decide_eq_true (by omega), decide_eq_true ⟨h1, h2, h⟩]
  · rw [decide_eq_false (by omega), decide_eq_false (fun hh => h hh.2.2)]

def FewPost (vs : List V) (w : World) (e : Ending) (w' : World) : Prop := e = .returned (.bool (fewB vs)) ∧ Fr w w'

theorem few_big (a : Option Addr) (n c : Nat) (w : World) (hn : 20 < n) (hm : n ≤ 9223372036854775807) :
    Calls Tryd.prog 10 #[.slice a n c] w fun e w' => e = .returned (.bool false) ∧ Fr w w' := by
  go_enter Tryd.func10, Tryd.ntmps10
  go_wp2
  go_ret
  exact ⟨rfl, Fr.refl _⟩

set_option maxHeartbeats 2000000 in
set_option maxRecDepth 100000 in
theorem few_at (b o c : Nat) (vs : List V) (w : World) (hn : vs.length ≤ 20) (hat : ∀ (k : Nat) (h : k < vs.length), At w b (o + k * 5) vs[k]) :
    Calls Tryd.prog 10 #[.slice (some ⟨b, o, none⟩) vs.length c] w fun e w' => FewPost vs w e w' := by
  have HA := Lib.hid hat
  clear hat
  go_enter Tryd.func10, Tryd.ntmps10
  go_wp2_with fail
  go_loopw [3, 4] (fun n i wr => ∃ (k m : Nat), k ≤ vs.length ∧ i = .int .i64 k ∧ n = .int .i64 m ∧ m = vsum (vs.take k) ∧ m ≤ k * 200000 ∧ (∀ (j : Nat) (h : j < vs.length), j < k → vs[j].few) ∧ Fr w wr) (fun _ i _ => vs.length - (intOf i).toNat)
  case atStart => exact ⟨0, 0, Nat.zero_le _, rfl, rfl, rfl, by omega, fun j _ h => absurd h (by omega), Fr.refl _⟩
  case round =>
    obtain ⟨k, m, hk, rfl, rfl, hm0, hm1, hfew, hwr⟩ := hrel
    have HM := Lib.hid hm0
    clear hm0
    have HF := Lib.hid hfew
    clear hfew
    by_cases hlt : k < vs.length
    · have hat := (HA.out k hlt).fr hwr
      generalize hvv : vs[k] = v at *
      have HV := Lib.hid hvv
      have HVS : Hid (vsum (vs.take (k + 1)) = vsum (vs.take k) + v.size) := by rw [vsum_take vs k hlt, hvv]; rfl
      have HMEM : Hid (v ∈ vs) := by rw [← hvv]; exact List.getElem_mem hlt
      clear hvv
      obtain ⟨a1, n1, hlv⟩ := hat.ok.lv.len
      obtain ⟨a2, n2, htv, hts⟩ : ∃ a2 n2, v.tv = .slice a2 v.t.length n2 ∧ ((a2 = none ∧ False) ∨ v.t.length = 0 ∨ ∃ g q, a2 = some ⟨g, q, none⟩ ∧ ∀ (i : Nat) (h : i < v.t.length), wr.cell? ⟨g, q + i, none⟩ = some (.string (S v.t[i]))) := by
        rcases hat.ok.tv with ⟨h0, a, c, h1⟩ | ⟨g, q, c, h1, h2⟩
        · have h3 : v.t.length = 0 := by simpa using congrArg List.length h0
          exact ⟨a, c, by rw [h1, h3], .inr (.inl h3)⟩
        · rw [List.length_map] at h1
          exact ⟨_, c, h1, .inr (.inr ⟨g, q, rfl, fun i h => h2 i _ (by simp [h])⟩)⟩
      have c2 := hat.c2
      have c3 := hat.c3
      have c4 := hat.c4
      rw [hlv, List.length_map] at c3
      rw [htv] at c4
      have HOK := Lib.hid hat
      clear hat hlv htv
      by_cases hl : v.l.length ≤ 400
      · by_cases ht : v.t.length ≤ 400
        · by_cases hs : v.s.length ≤ 400
          · rcases hts with ⟨_, h⟩ | htz | ⟨g, q, rfl, hcell⟩
            · exact h.elim
            · have hm2 : m ≤ 4000000 := by omega
              have htz0 : v.t.length ≤ 0 := by omega
              have HTZ := Lib.hid htz
              clear htz
              have e1 : IntKind.i64.wrap ((m : Int) + (v.s.length : Int)) = m + v.s.length := IntWalk.i64_in _ (by omega)
              have e2 : IntKind.i64.wrap ((m : Int) + (v.s.length : Int) + (v.l.length : Int)) = m + v.s.length + v.l.length := IntWalk.i64_in _ (by omega)
              have e3 : IntKind.i64.wrap ((m : Int) + (v.s.length : Int) + (v.l.length : Int) + (v.t.length : Int)) = m + v.s.length + v.l.length + v.t.length := IntWalk.i64_in _ (by omega)
              go_wp2_with fail
              go_quiet (fail)
              clear e1 e2 e3
              obtain ⟨m1, hm1'⟩ : ∃ m1 : Nat, m1 = m + v.s.length + v.l.length + v.t.length := ⟨_, rfl⟩
              rw [show (m : Int) + v.s.length + v.l.length + v.t.length = (m1 : Int) from by omega]
              have hq1 : m1 ≤ k * 200000 + 1200 := by omega
              have HM1 := Lib.hid hm1'
              clear hm1' hm1
              have hfq := Fr.drewN wr nq
              have hwr2 := hwr.trans hfq
              have c42 := hfq.cell c4
              generalize wr.drewN nq = w2 at *
              clear c2 c3 c4 hfq hwr
              go_wp2_with fail
              go_loop [3, 5] (fun n j => n = .int .i64 m1 ∧ j = .int .i64 0) (fun _ _ => 0)
              case atStart => exact ⟨rfl, rfl⟩
              case round =>
                obtain ⟨rfl, rfl⟩ := hrel
                go_wp2_with fail
                go_roundw
                case rel =>
                  refine ⟨k + 1, m1, by omega, by go_num, rfl, ?_, by omega, fun j h hj => ?_, hwr2⟩
                  · rw [HVS.out, ← HM.out, HM1.out, V.size, show tsum v.t = 0 from by rw [List.length_eq_zero_iff.1 HTZ.out]; rfl]; omega
                  rcases Nat.lt_or_ge j k with h1 | h1
                  · exact HF.out j h h1
                  · obtain rfl : j = k := by omega
                    rw [HV.out]
                    exact ⟨hl, ht, hs, fun x hx => by rw [List.length_eq_zero_iff.1 HTZ.out] at hx; cases hx⟩
                case measure => simp [intOf]; omega
            · have HC := Lib.hid hcell
              clear hcell
              have hm2 : m ≤ 4000000 := by omega
              have e1 : IntKind.i64.wrap ((m : Int) + (v.s.length : Int)) = m + v.s.length := IntWalk.i64_in _ (by omega)
              have e2 : IntKind.i64.wrap ((m : Int) + (v.s.length : Int) + (v.l.length : Int)) = m + v.s.length + v.l.length := IntWalk.i64_in _ (by omega)
              have e3 : IntKind.i64.wrap ((m : Int) + (v.s.length : Int) + (v.l.length : Int) + (v.t.length : Int)) = m + v.s.length + v.l.length + v.t.length := IntWalk.i64_in _ (by omega)
              go_wp2_with fail
              go_quiet (fail)
              clear e1 e2 e3
              obtain ⟨m1, hm1'⟩ : ∃ m1 : Nat, m1 = m + v.s.length + v.l.length + v.t.length := ⟨_, rfl⟩
              rw [show (m : Int) + v.s.length + v.l.length + v.t.length = (m1 : Int) from by omega]
              have hq1 : m1 ≤ k * 200000 + 1200 := by omega
              have HM1 := Lib.hid hm1'
              clear hm1' hm1
              have hfq := Fr.drewN wr nq
              have hwr2 := hwr.trans hfq
              have c42 := hfq.cell c4
              have HC2 : Hid (∀ (i : Nat) (h : i < v.t.length), (wr.drewN nq).cell? ⟨g, q + i, none⟩ = some (.string (S v.t[i]))) := fun i h => hfq.cell (HC.out i h)
              generalize wr.drewN nq = w2 at *
              clear c2 c3 c4 hfq hwr HC
              go_wp2_with fail
              go_loop [3, 5] (fun n j => ∃ (i p : Nat), i ≤ v.t.length ∧ j = .int .i64 i ∧ n = .int .i64 p ∧ p = m1 + tsum (v.t.take i) ∧ p ≤ m1 + i * 400 ∧ ∀ (x : Nat) (h : x < v.t.length), x < i → v.t[x].length ≤ 400) (fun _ j => v.t.length - (intOf j).toNat)
              case atStart => exact ⟨0, m1, Nat.zero_le _, rfl, rfl, rfl, by omega, fun x _ h => absurd h (by omega)⟩
              case round =>
                obtain ⟨i, p, hi, rfl, rfl, hp0, hp1, hx⟩ := hrel
                have HP := Lib.hid hp0
                have HX := Lib.hid hx
                clear hx hp0
                by_cases hil : i < v.t.length
                · have ci := HC2.out i hil
                  by_cases hx4 : v.t[i].length ≤ 400
                  · go_wp2_with fail
                    go_round
                    case rel =>
                      refine ⟨i + 1, p + v.t[i].length, by omega, by go_num, by go_num, by rw [HP.out, tsum_take v.t i hil]; omega, by omega, fun x h hxi => ?_⟩
                      rcases Nat.lt_or_ge x i with h1 | h1
                      · exact HX.out x h h1
                      · obtain rfl : x = i := by omega
                        exact hx4
                    case measure => simp [intOf]; omega
                  · have HNF := Lib.hid (fewB_one HMEM.out (fun hf => hx4 (hf.ts _ (List.getElem_mem hil))))
                    go_wp2_with fail
                    go_ret
                    exact ⟨by rw [HNF.out]; rfl, hwr2⟩
                · have HALL : Hid (∀ x ∈ v.t, x.length ≤ 400) := fun x hx => by
                    obtain ⟨j, hj, rfl⟩ := List.mem_iff_getElem.1 hx
                    exact HX.out j hj (by omega)
                  go_wp2_with fail
                  go_roundw
                  case rel =>
                    refine ⟨k + 1, p, by omega, by go_num, rfl, ?_, by omega, fun j h hj => ?_, hwr2⟩
                    · rw [HVS.out, ← HM.out, HP.out, HM1.out, V.size, show v.t.take i = v.t from List.take_of_length_le (by omega)]; omega
                    rcases Nat.lt_or_ge j k with h1 | h1
                    · exact HF.out j h h1
                    · obtain rfl : j = k := by omega
                      rw [HV.out]
                      exact ⟨hl, ht, hs, HALL.out⟩
                  case measure => simp [intOf]; omega
          · clear hts
            have HNF := Lib.hid (fewB_one HMEM.out (fun hf => hs (hf.s)))
            go_wp2_with fail
            go_ret
            exact ⟨by rw [HNF.out]; rfl, hwr⟩
        · clear hts
          have HNF := Lib.hid (fewB_one HMEM.out (fun hf => ht (hf.t)))
          go_wp2_with fail
          go_ret
          exact ⟨by rw [HNF.out]; rfl, hwr⟩
      · clear hts
        have HNF := Lib.hid (fewB_one HMEM.out (fun hf => hl (hf.l)))
        go_wp2_with fail
        go_ret
        exact ⟨by rw [HNF.out]; rfl, hwr⟩
    · have HALL : Hid (∀ v ∈ vs, v.few) := fun v hv => by
        obtain ⟨j, hj, rfl⟩ := List.mem_iff_getElem.1 hv
        exact HF.out j hj (by omega)
      have HRES : Hid (decide ((m : Int) ≤ 400) = fewB vs) := by
        rw [← fewB_all hn HALL.out, HM.out, show vs.take k = vs from List.take_of_length_le (by omega)]; rfl
      go_wp2_with fail
      go_ret
      exact ⟨congrArg (fun b => Ending.returned (.bool b)) HRES.out, hwr⟩
end Go.Proofs.YtjabpagfoclajaaDoor
