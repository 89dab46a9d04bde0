/-
  KeysHolds (the stage's theorem): fewer of the owner's keys than needed do not suffice, and until a fact with the name is added the owner is the same.
  Conditions: none beyond the row's own.
-/
import Derived.Test.YtddeblcoglhdnaaRkf
import Derived.Test.YtddeblcoglhdnaaLf
namespace Go.Proofs.Ytddeblcoglhdnaa.lawKeysHolds
open Go.ChangeShapes Go.WideShapes Go.ChangeAt Go.RowKit
open Go.ChangeMaps (open_string)

set_option maxRecDepth 100000 in
/-- What the walk gives, for every argument. -/
theorem contract (H : Type) (enc : TypeId × Value → H) (W : World) (base : Nat) (args : Array Value) (ds gs : List (DataW H)) (before : List MemPlace)
    (hval : ∀ (j : Nat) t v, Try.f4.params[j]? = some t → args[j]? = some v → Value.okWide Try.prog W .any base t v)
    (hW : DataW.Whole enc Try.prog Try.f4.params.toList Rows.keysHoldsSpec.vars false W args.toList ds gs before)
    (hsz0 : (DataW.weightsEach Try.prog (Try.f4.params.toList ++ Rows.keysHoldsSpec.plain.varTypes Try.prog) (ds ++ gs)).all (· ≤ reachBytes) = true)
    : Calls Try.prog 4 args W fun e W' => ∃ v, e = .returned v ∧ Rows.keysHoldsSpec.post enc Try.prog Try.f4 false true false false W args v W' := by
  have hW' := hW
  have hlt : ∀ x ∈ before, x.block < W.heap.size := fun x hx => hW.lt x hx
  obtain ⟨p, q, hA0, hV, rfl, hfz, hnd⟩ := hW
  have hA : DataW.TrodAll enc Try.prog W 0 (fun _ => true) true Try.f4.params.toList args.toList ds p := hA0
  rw [Try.params4] at hA hval hsz0
  obtain ⟨al⟩ := args
  change DataW.TrodAll enc Try.prog W 0 (fun _ => true) true [22, 23, 24, 9, 5, 23] al ds p at hA
  obtain ⟨v0, al0, D0, ds0, p0, q0, rfl, rfl, rfl, h0, t0⟩ := trodAll_cons hA
  obtain ⟨v1, al1, D1, ds1, p1, q1, rfl, rfl, rfl, h1, t1⟩ := trodAll_cons t0
  obtain ⟨v2, al2, D2, ds2, p2, q2, rfl, rfl, rfl, h2, t2⟩ := trodAll_cons t1
  obtain ⟨v3, al3, D3, ds3, p3, q3, rfl, rfl, rfl, h3, t3⟩ := trodAll_cons t2
  obtain ⟨v4, al4, D4, ds4, p4, q4, rfl, rfl, rfl, h4, t4⟩ := trodAll_cons t3
  obtain ⟨v5, al5, D5, ds5, p5, q5, rfl, rfl, rfl, h5, t5⟩ := trodAll_cons t4
  obtain ⟨rfl, rfl, rfl⟩ : al5 = [] ∧ ds5 = [] ∧ q5 = [] := trodAll_nil t5
  obtain ⟨rfl, rfl⟩ := trodVars_none hV
  clear hA0
  have hsz : (DataW.weightsEach Try.prog [22, 23, 24, 9, 5, 23] [D0, D1, D2, D3, D4, D5]).all (· ≤ reachBytes) = true := hsz0
  simp only [List.append_nil] at hW' hlt
  obtain ⟨a0, len0, cap0, e0⟩ := okWide_slice Try.underlying22 (hval 0 22 v0 rfl rfl)
  obtain ⟨fuel0, hf0⟩ := id h0
  have hg0 : DataW.trod enc Try.prog W 0 (fun _ => true) true fuel0 22 [v0] = some (D0, p0) := by rw [e0] at hf0 ⊢; simpa [Value.cells] using hf0
  obtain ⟨l0, hl0, hr0, hw0⟩ := facts_sl hg0
  obtain ⟨a1, len1, cap1, e1⟩ := okWide_slice Try.underlying23 (hval 1 23 v1 rfl rfl)
  obtain ⟨fuel1, hf1⟩ := id h1
  have hg1 : DataW.trod enc Try.prog W 0 (fun _ => true) true fuel1 23 [v1] = some (D1, p1) := by rw [e1] at hf1 ⊢; simpa [Value.cells] using hf1
  obtain ⟨l1, hk1, hr1⟩ := ints_sl hg1
  obtain ⟨a2, len2, cap2, e2⟩ := okWide_slice Try.underlying24 (hval 2 24 v2 rfl rfl)
  obtain ⟨fuel2, hf2⟩ := id h2
  have hg2 : DataW.trod enc Try.prog W 0 (fun _ => true) true fuel2 24 [v2] = some (D2, p2) := by rw [e2] at hf2 ⊢; simpa [Value.cells] using hf2
  obtain ⟨l2, hs2, hr2, hw2⟩ := lists_sl hg2
  have hz2 : l2.length * 24 ≤ 140737488351232 := by
    rcases hw2 with rfl | ⟨es, sp, hD, hle⟩
    · exact Nat.zero_le _
    · simp only at hD
      have := sized_slice hsz (j := 2) (t := 24) (e := 23) (elems := es) (spare := sp) rfl (by rw [hD]; rfl) Try.underlying24
      rw [bytesSl, reach_eq] at this
      omega
  obtain ⟨s3, rfl, _, _, hs3⟩ := open_string Try.underlying9 (hval 3 9 v3 rfl rfl) h3
  unfold maxLen at hs3
  obtain ⟨n4, rfl, _, _, hn4⟩ := open_int Try.underlying5 (hval 4 5 v4 rfl rfl) h4
  have hb4 := bounds_u8 hn4
  obtain ⟨n4, rfl⟩ : ∃ x : Nat, n4 = (x : Int) := ⟨n4.toNat, by omega⟩
  obtain ⟨a5, len5, cap5, e5⟩ := okWide_slice Try.underlying23 (hval 5 23 v5 rfl rfl)
  obtain ⟨fuel5, hf5⟩ := id h5
  have hg5 : DataW.trod enc Try.prog W 0 (fun _ => true) true fuel5 23 [v5] = some (D5, p5) := by rw [e5] at hf5 ⊢; simpa [Value.cells] using hf5
  obtain ⟨l5, hk5, hr5⟩ := ints_sl hg5
  have walk := holdsLaw_any v0 v1 v2 v5 l0 l1 l2 s3.data.toList n4 l5 W hl0 hr0 hk1 hr1 hs2 hr2 (by simp; omega) (by omega) hk5 hr5 hz2
  refine walk.mono fun e W' ⟨he, hg⟩ => ?_
  subst he
  have hb := hg.below
  exact ⟨_, rfl, _, _, _, [], _, [], hW', trodAll_cons_mk (shut_bool Try.underlying4 _) trodAll_mk0, trodAll_cons_mk (Below.trod laidOut (by kernel_rfl) (of_decide_eq_true (by kernel_rfl)) h0 hb (fun x hx => hlt x (by simp [hx]))) (trodAll_cons_mk (Below.trod laidOut (by kernel_rfl) (of_decide_eq_true (by kernel_rfl)) h1 hb (fun x hx => hlt x (by simp [hx]))) (trodAll_cons_mk (Below.trod laidOut (by kernel_rfl) (of_decide_eq_true (by kernel_rfl)) h2 hb (fun x hx => hlt x (by simp [hx]))) (trodAll_cons_mk (Below.trod laidOut (by kernel_rfl) (of_decide_eq_true (by kernel_rfl)) h3 hb (fun x hx => hlt x (by simp [hx]))) (trodAll_cons_mk (Below.trod laidOut (by kernel_rfl) (of_decide_eq_true (by kernel_rfl)) h4 hb (fun x hx => hlt x (by simp [hx]))) (trodAll_cons_mk (Below.trod laidOut (by kernel_rfl) (of_decide_eq_true (by kernel_rfl)) h5 hb (fun x hx => hlt x (by simp [hx]))) (trodAll_mk0)))))), rfl, hb.frame _, fun h => by cases h⟩

theorem reads (os : Os) {H : Type} (enc : TypeId × Value → H) : ∃ places, DataW.whole enc Try.prog ((World.holding Try.prog os ⟨#[], #[], []⟩).forCall (fun _ _ => 0) ⟨#[], #[.slice none 0 0, .slice none 0 0, .slice none 0 0, .string ByteArray.empty, .int .u8 0, .slice none 0 0], []⟩).memory Try.f4.params.toList Rows.keysHoldsSpec.vars false (#[.slice none 0 0, .slice none 0 0, .slice none 0 0, .string ByteArray.empty, .int .u8 0, .slice none 0 0] : Array Value).toList 8 = some ([.nil, .nil, .nil, .lit (.string []), .lit (.int .u8 0), .nil], [], places) :=
  ⟨[], by kernel_rfl⟩
theorem laid_met (os : Os) : laidMet Try.prog Rows.keysHoldsRow.laid ((World.holding Try.prog os ⟨#[], #[], []⟩).forCall (fun _ _ => 0) ⟨#[], #[.slice none 0 0, .slice none 0 0, .slice none 0 0, .string ByteArray.empty, .int .u8 0, .slice none 0 0], []⟩).memory :=
  laidMet_of_run' 8 (by kernel_rfl) (by kernel_rfl)

set_option maxRecDepth 100000 in
theorem lifted (os : Os) (started : os.Started) (H : Type) (enc : TypeId × Value → H) (F : Stop.Interp) :
    ReturnsInHanded {} Try.checked os 4 .any ((OpenSpec.ofChange Rows.keysHoldsSpec).preRow enc Try.prog Try.f4 Rows.keysHoldsRow.domain false Rows.keysHoldsRow.laid) (((OpenSpec.ofChange Rows.keysHoldsSpec).at F).post enc Try.prog Try.f4 false true false false) := by
  obtain ⟨places, hx⟩ := reads os enc
  refine returnsInHanded_of_row (C := Try.checked) (s := OpenSpec.ofChange Rows.keysHoldsSpec) ownKnobNone started (by kernel_rfl) Try.func4
    (witness_row_at (enc := enc) (C := Try.checked) false (World.holding Try.prog os ⟨#[], #[], []⟩) #[.slice none 0 0, .slice none 0 0, .slice none 0 0, .string ByteArray.empty, .int .u8 0, .slice none 0 0] rfl (by kernel_rfl) (by kernel_rfl) (by kernel_rfl)
      (OpenSpec.preRow_of_cond 8 hx (by kernel_rfl) (fun k hk => by cases hk) (by kernel_rfl) (laid_met os))) ?_
  intro W base args ds gs before hval hW _ _ hsz _ _ _
  exact contract H enc W base args ds gs before hval hW hsz

theorem said : Rows.KeysHoldsSaid :=
  OpenClaim.holds_of_cond 4 Try.f4 rfl rfl rfl rfl rfl rfl rfl ⟨rfl, rfl, rfl, rfl, rfl⟩ rfl rfl rfl rfl rfl (by kernel_rfl) Try.func4 (by kernel_rfl)
    (of_decide_eq_true (by kernel_rfl)) (by unfold Func.isWrapper; first | (rw [if_pos (by decide +kernel)]; kernel_rfl) | (rw [if_neg (by decide +kernel)]; exact ⟨rfl, rfl⟩))
    (fun os started H enc _ F => by rw [OpenClaim.pre_eq_preRow]; exact lifted os started H enc F)
end Go.Proofs.Ytddeblcoglhdnaa.lawKeysHolds
