/-
  The walk of WirePrefix.
-/
import Derived.Test.YtjabpagfoclajaaDoorLawA
import Derived.Test.YtjabpagfoclajaaDoorLawW
namespace Go.Proofs.YtjabpagfoclajaaDoor
open Go.RowKit

theorem V.enc_len {v : V} {w : World} (h : v.ok w) (hv : v.few) : v.enc.length ≤ 400000 := by
  have hn := v.num_in h.n
  have h1 := Lib.itoa_length_le v.num hn.int.1 hn.int.2
  have h2 := Lib.itoa_length_le v.n h.n.1 h.n.2
  have h3 := Lib.itoa_length_le v.s.length (by omega) (by have := hv.s; omega)
  have h4 := Lib.itoa_length_le v.l.length (by omega) (by have := hv.l; omega)
  have h5 := Lib.itoa_length_le v.t.length (by omega) (by have := hv.t; omega)
  have h6 := flat_len h.l
  have h7 := flat_text_len hv.ts
  have := hv.s; have := hv.l; have := hv.t
  unfold V.enc
  split
  · rw [Wm.numE_f, List.length_append, List.length_singleton]; omega
  · split
    · rw [Wm.intE_f, List.length_append, List.length_singleton]; omega
    · split
      · rw [Wm.textE_f]; simp only [List.length_append, List.length_cons, List.length_nil]; omega
      · split
        · rw [Wm.listE_f]; simp only [List.length_append, List.length_cons, List.length_nil]; omega
        · rw [Wm.listE_f]; simp only [List.length_append, List.length_cons, List.length_nil]; omega

/-- The five cells of a box, one by one. -/
theorem Bx.cells5 {b : Nat} {v : V} {w : World} (h : Bx b v w) : w.cell? ⟨b, 0, none⟩ = some (.int .i64 v.kd) ∧ w.cell? ⟨b, 1, none⟩ = some (.int .i64 v.n) ∧ w.cell? ⟨b, 2, none⟩ = some (.string (S v.s)) ∧ w.cell? ⟨b, 3, none⟩ = some v.lv ∧ w.cell? ⟨b, 4, none⟩ = some v.tv :=
  ⟨h.cell 0, h.cell 1, h.cell 2, h.cell 3, h.cell 4⟩

theorem pre_of {a b : List UInt8} (hle : a.length ≤ b.length) (h : (((S b).extract 0 (min (a.length : Int) (b.length : Int)).toNat).toList == a) = true) : ∃ r, b = a ++ r := by
  have h1 := eq_of_beq h
  rw [S_extract, S_toList, show (min (a.length : Int) (b.length : Int)).toNat = a.length by omega] at h1
  exact ⟨b.drop a.length, by conv => lhs; rw [← List.take_append_drop a.length b]; rw [show b.take a.length = a by simpa using h1]⟩
/-- Of two values of one kind, no encoding begins with the other one, unless they are the same. -/
theorem enc_prefix {v u : V} {w : World} (hv : v.ok w) (hu : u.ok w) (fv : v.few) (fu : u.few) (hk : v.kind = u.kind) (h : ∃ r, u.enc = v.enc ++ r) : v.enc = u.enc := by
  obtain ⟨r, h⟩ := h
  have hnv := v.num_in hv.n
  have hnu := u.num_in hu.n
  have key : ∀ {α : Type} {E : Wm.Enc α} (x y : α), E.Pf → E.dom x → E.dom y → E.f y = E.f x ++ r → E.f x = E.f y := by
    intro α E x y hE hx hy e
    obtain ⟨e1, _⟩ := hE y x [] r hy hx (by rw [List.append_nil]; exact e)
    rw [e1]
  unfold V.enc at h ⊢
  rw [← hk] at h ⊢
  split at h
  · rename_i h0; rw [if_pos h0, if_pos h0]; exact key _ _ (Wm.numE_pf Wm.num59) hnv hnu h
  · rename_i h0; rw [if_neg h0, if_neg h0]
    split at h
    · rename_i h1; rw [if_pos h1, if_pos h1]; exact key _ _ (Wm.intE_pf Wm.num59) hv.n hu.n h
    · rename_i h1; rw [if_neg h1, if_neg h1]
      split at h
      · rename_i h2; rw [if_pos h2, if_pos h2]; exact key _ _ Wm.textE_pf (by have := fv.s; show v.s.length ≤ _; omega) (by have := fu.s; show u.s.length ≤ _; omega) h
      · rename_i h2; rw [if_neg h2, if_neg h2]
        split at h
        · rename_i h3; rw [if_pos h3, if_pos h3]
          exact key _ _ (Wm.listE_pf (Wm.intE_pf Wm.num59)) ⟨by have := fv.l; omega, hv.l⟩ ⟨by have := fu.l; omega, hu.l⟩ h
        · rename_i h3; rw [if_neg h3, if_neg h3]
          exact key _ _ (Wm.listE_pf Wm.textE_pf) ⟨by have := fv.t; omega, fun x hx => by have := fv.ts x hx; show x.length ≤ _; omega⟩ ⟨by have := fu.t; omega, fun x hx => by have := fu.ts x hx; show x.length ≤ _; omega⟩ h

/-- Two boxes that hold Values, and all that a statement over two Values needs of the world. -/
structure PC (w1 : World) (a b : Nat) (v u : V) (w : World) : Prop where
  old : Fr w1 w
  ba : Bx a v w
  bb : Bx b u w
  ov : v.ok w
  ou : u.ok w
  tab : Tab w
theorem PC.fr {w1 : World} {a b : Nat} {v u : V} {w w' : World} (h : PC w1 a b v u w) (hf : Fr w w') : PC w1 a b v u w' :=
  ⟨h.old.trans hf, h.ba.fr hf, h.bb.fr hf, h.ov.fr hf, h.ou.fr hf, h.tab.fr hf⟩
section
variable {w1 : World} {a b : Nat} {v u : V} {w : World}
theorem few_v (h : PC w1 a b v u w) : Calls Tryd.prog 10 #[.slice (some ⟨w.heap.size, 0, none⟩) 1 1] (w.alloc (.cells #[.int .i64 v.kd, .int .i64 v.n, .string (S v.s), v.lv, v.tv] 25)) fun e w' => e = .returned (.bool (fewB [v])) ∧ PC w1 a b v u w' :=
  (few_one v w h.ov).mono fun _ _ ⟨he, hf⟩ => ⟨he, h.fr ((Fr.alloc _ _).trans hf)⟩
theorem few_vd (h : PC w1 a b v u w) : Calls Tryd.prog 10 #[.slice (some ⟨w.heap.size, 0, none⟩) 1 1] (w.alloc (.cells #[.int .i64 v.kd, .int .i64 v.n, .string (S v.s), v.lv, v.tv] 25)).drew fun e w' => e = .returned (.bool (fewB [v])) ∧ PC w1 a b v u w' :=
  few_v (w := w.drew) (h.fr (Fr.drew w))
theorem few_u (h : PC w1 a b v u w) : Calls Tryd.prog 10 #[.slice (some ⟨w.heap.size, 0, none⟩) 1 1] (w.alloc (.cells #[.int .i64 u.kd, .int .i64 u.n, .string (S u.s), u.lv, u.tv] 25)) fun e w' => e = .returned (.bool (fewB [u])) ∧ PC w1 a b v u w' :=
  (few_one u w h.ou).mono fun _ _ ⟨he, hf⟩ => ⟨he, h.fr ((Fr.alloc _ _).trans hf)⟩
theorem kind_v (h : PC w1 a b v u w) : Calls Tryd.prog 23 #[.agg #[.int .i64 v.kd, .int .i64 v.n, .string (S v.s), v.lv, v.tv]] w fun e w' => e = .returned (.int .i64 v.kind) ∧ PC w1 a b v u w' :=
  (kind_any v w h.ov).mono fun _ _ ⟨he, hf⟩ => ⟨he, h.fr hf⟩
theorem kind_u (h : PC w1 a b v u w) : Calls Tryd.prog 23 #[.agg #[.int .i64 u.kd, .int .i64 u.n, .string (S u.s), u.lv, u.tv]] w fun e w' => e = .returned (.int .i64 u.kind) ∧ PC w1 a b v u w' :=
  (kind_any u w h.ou).mono fun _ _ ⟨he, hf⟩ => ⟨he, h.fr hf⟩
end

set_option maxHeartbeats 4000000 in
set_option maxRecDepth 100000 in
theorem prefix_law (v u : V) (w : World) (hv : v.ok w) (hu : u.ok w) (ht : Tab w) :
    Calls Tryd.prog 7 #[.agg #[.int .i64 v.kd, .int .i64 v.n, .string (S v.s), v.lv, v.tv], .agg #[.int .i64 u.kd, .int .i64 u.n, .string (S u.s), u.lv, u.tv]] w fun e w' => e = .returned (.bool true) ∧ Fr w w' := by
  go_enter Tryd.func7, Tryd.ntmps7
  go_wp2_with fail
  have hb1 := Bx.new w v
  have hf1 := Fr.alloc w (.cells #[.int .i64 v.kd, .int .i64 v.n, .string (S v.s), v.lv, v.tv] 25)
  have hs1 : (w.alloc (.cells #[.int .i64 v.kd, .int .i64 v.n, .string (S v.s), v.lv, v.tv] 25)).heap.size = w.heap.size + 1 := by simp
  have hb2 := Bx.new (w.alloc (.cells #[.int .i64 v.kd, .int .i64 v.n, .string (S v.s), v.lv, v.tv] 25)) u
  have hf2 := Fr.alloc (w.alloc (.cells #[.int .i64 v.kd, .int .i64 v.n, .string (S v.s), v.lv, v.tv] 25)) (.cells #[.int .i64 u.kd, .int .i64 u.n, .string (S u.s), u.lv, u.tv] 25)
  rw [hs1] at hb2
  have hb1' := hb1.fr hf2
  have hf := hf1.trans hf2
  refine (small_any _ (ht.fr hf)).mono ?_
  rintro e w1 ⟨rfl, hf3⟩
  have hw1 := hf.trans hf3
  have hp : PC w w.heap.size (w.heap.size + 1) v u w1 := ⟨hw1, hb1'.fr hf3, hb2.fr hf3, hv.fr hw1, hu.fr hw1, ht.fr hw1⟩
  clear hb1 hf1 hs1 hb2 hf2 hb1' hf hf3 hv hu ht
  obtain ⟨a0, a1, a2, a3, a4⟩ := Bx.cells5 (w := w1) hp.ba
  obtain ⟨b0, b1, b2, b3, b4⟩ := Bx.cells5 (w := w1) hp.bb
  rcases hB : fewB [v] with _ | _
  · go_wp2_with fail
    go_region_with (first | (go_at_call 10; refine (few_vd (by assumption)).mono ?_; rintro e w2 ⟨rfl, hp2⟩))
    all_goals
      go_wp2_with fail
      go_ret
      exact ⟨rfl, hp2.old⟩
  · have HV := Lib.hid ((fewB_true hB).2.1 v (by simp))
    rcases hC : fewB [u] with _ | _
    · go_wp2_with fail
      go_region_with (first | (go_at_call 10; ((with_reducible refine (few_vd (by assumption)).mono ?_); (rintro e w2 ⟨rfl, hp2⟩; obtain ⟨a0', a1', a2', a3', a4'⟩ := hp2.ba.cells5; obtain ⟨b0', b1', b2', b3', b4'⟩ := hp2.bb.cells5))) | (go_at_call 10; ((with_reducible refine (few_u (by assumption)).mono ?_); rintro e w3 ⟨rfl, hp3⟩)))
      all_goals
        go_wp2_with fail
        go_ret
        exact ⟨rfl, hp3.old⟩
    · have HU := Lib.hid ((fewB_true hC).2.1 u (by simp))
      have hkv := v.kind_lt
      have hku := u.kind_lt
      by_cases hk : v.kind = u.kind
      · have hkb : (v.kind != u.kind) = false := by rw [hk]; simp
        have HK := Lib.hid hk
        clear hk
        go_wp2_with fail
        go_region_with (first | (go_at_call 10; ((with_reducible refine (few_vd (by assumption)).mono ?_); (rintro e w2 ⟨rfl, hp2⟩; obtain ⟨a0', a1', a2', a3', a4'⟩ := hp2.ba.cells5; obtain ⟨b0', b1', b2', b3', b4'⟩ := hp2.bb.cells5))) | (go_at_call 10; ((with_reducible refine (few_u (by assumption)).mono ?_); (rintro e w3 ⟨rfl, hp3⟩; obtain ⟨a0', a1', a2', a3', a4'⟩ := hp3.ba.cells5; obtain ⟨b0', b1', b2', b3', b4'⟩ := hp3.bb.cells5))) | (go_at_call 23; ((with_reducible refine (kind_v (by assumption)).mono ?_); (rintro e w4 ⟨rfl, hp4⟩; obtain ⟨a0', a1', a2', a3', a4'⟩ := hp4.ba.cells5; obtain ⟨b0', b1', b2', b3', b4'⟩ := hp4.bb.cells5))) | (go_at_call 23; ((with_reducible refine (kind_u (by assumption)).mono ?_); (rintro e w4 ⟨rfl, hp4⟩; obtain ⟨a0', a1', a2', a3', a4'⟩ := hp4.ba.cells5; obtain ⟨b0', b1', b2', b3', b4'⟩ := hp4.bb.cells5))))
        all_goals
          go_wp2_with fail
          refine (write_any v _ hp4.ov HV.out hp4.tab).mono ?_
          rintro e w6 ⟨rfl, hf6⟩
          have hp6 := hp4.fr hf6
          have HLV := Lib.hid (V.enc_len hp4.ov HV.out)
          have HLU := Lib.hid (V.enc_len hp4.ou HU.out)
          obtain ⟨c0, c1, c2, c3, c4⟩ := hp6.bb.cells5
          clear hp4 hf6
          go_wp2_with fail
          refine (write_any u _ hp6.ou HU.out hp6.tab).mono ?_
          rintro e w7 ⟨rfl, hf7⟩
          have hp7 := hp6.fr hf7
          obtain ⟨d0, d1, d2, d3, d4⟩ := hp7.bb.cells5
          clear hp6 hf7 c0 c1 c2 c3 c4
          generalize hve : v.enc = ve at *
          generalize hue : u.enc = ue at *
          have HVE := Lib.hid hve
          have HUE := Lib.hid hue
          have hlv := HLV.out
          have hlu := HLU.out
          clear hve hue
          by_cases hle : ve.length ≤ ue.length
          · cases hbt : (((S ue).extract 0 (min (ve.length : Int) (ue.length : Int)).toNat).toList == ve) with
            | false =>
              go_wp2_with fail
              go_ret
              exact ⟨rfl, hp7.old⟩
            | true =>
              have hve : ve = ue := by rw [← HVE.out, ← HUE.out]; exact enc_prefix hp7.ov hp7.ou HV.out HU.out HK.out (by rw [HVE.out, HUE.out]; exact pre_of hle hbt)
              subst hve
              clear hle hlu HLU HVE hbt
              have hbt : (((S ve).extract 0 ve.length).toList == ve) = true := by rw [S_extract, S_toList]; simp
              have hbt2 : (min (ve.length : Int) (ve.length : Int)).toNat = ve.length := by omega
              go_wp2_with fail
              refine (open_any ve w7).mono ?_
              rintro e w8 ⟨rfl, hrd8, hf8⟩
              have hp8 := hp7.fr hf8
              obtain ⟨e0, e1, e2, e3, e4⟩ := hp8.bb.cells5
              clear d0 d1 d2 d3 d4
              go_wp2_with fail
              refine (equal_any u w7.heap.size [] w7 w8 hp7.ou hf8.below (Nat.le_refl _) HU.out (by rw [HUE.out, List.append_nil]; exact hrd8) (by rw [HUE.out, List.append_nil]; omega)).mono ?_
              rintro e w9 ⟨rfl, hrd9, hf9⟩
              go_wp2_with fail
              go_ret
              exact ⟨rfl, .of_below (hp8.old.below.trans (hf9.below hp7.old.size hp8.old.size))⟩
          · go_wp2_with fail
            go_ret
            exact ⟨rfl, hp7.old⟩
      · have hkb : (v.kind != u.kind) = true := by rw [bne_iff_ne]; exact hk
        clear hk
        go_wp2_with fail
        go_region_with (first | (go_at_call 10; ((with_reducible refine (few_vd (by assumption)).mono ?_); (rintro e w2 ⟨rfl, hp2⟩; obtain ⟨a0', a1', a2', a3', a4'⟩ := hp2.ba.cells5; obtain ⟨b0', b1', b2', b3', b4'⟩ := hp2.bb.cells5))) | (go_at_call 10; ((with_reducible refine (few_u (by assumption)).mono ?_); (rintro e w3 ⟨rfl, hp3⟩; obtain ⟨a0', a1', a2', a3', a4'⟩ := hp3.ba.cells5; obtain ⟨b0', b1', b2', b3', b4'⟩ := hp3.bb.cells5))) | (go_at_call 23; ((with_reducible refine (kind_v (by assumption)).mono ?_); (rintro e w4 ⟨rfl, hp4⟩; obtain ⟨a0', a1', a2', a3', a4'⟩ := hp4.ba.cells5; obtain ⟨b0', b1', b2', b3', b4'⟩ := hp4.bb.cells5))) | (go_at_call 23; ((with_reducible refine (kind_u (by assumption)).mono ?_); (rintro e w4 ⟨rfl, hp4⟩; obtain ⟨a0', a1', a2', a3', a4'⟩ := hp4.ba.cells5; obtain ⟨b0', b1', b2', b3', b4'⟩ := hp4.bb.cells5))))
        all_goals
          go_wp2_with fail
          go_ret
          exact ⟨rfl, hp4.old⟩
end Go.Proofs.YtjabpagfoclajaaDoor
