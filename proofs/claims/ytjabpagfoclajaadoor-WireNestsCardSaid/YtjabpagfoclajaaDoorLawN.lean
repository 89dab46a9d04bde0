/-
  The walk of WireNests.
-/
import Derived.Test.YtjabpagfoclajaaDoorLawB
namespace Go.Proofs.YtjabpagfoclajaaDoor
open Go.RowKit

theorem Fr.grown {w x y : World} {row : Option Nat} (h : Fr w x) (hg : x.grownBy y row) (hr : ∀ k, row = some k → w.heap.size ≤ k) : Fr w y :=
  World.grownBy.andThen h hg (fun j hj => .inl (hr j hj))

theorem encs_flat {vs : List V} {w : World} (h : ∀ v ∈ vs, v.ok w) (hf : ∀ v ∈ vs, v.few) : ((vs.map V.enc).flatMap Wm.textE.f).length ≤ 400100 * vs.length := by
  induction vs with
  | nil => simp
  | cons v vs ih =>
    have h1 := V.enc_len (h v (by simp)) (hf v (by simp))
    have h2 := ih (fun x hx => h x (by simp [hx])) (fun x hx => hf x (by simp [hx]))
    have h3 := Lib.itoa_length_le v.enc.length (by omega) (by omega)
    have h4 : (Wm.textE.f v.enc).length = (Lib.itoa v.enc.length).length + (v.enc.length + 2) := by simp [Wm.textE_f]
    simp only [List.map_cons, List.flatMap_cons, List.length_append, List.length_cons]; omega
theorem encs_dom {vs : List V} {w : World} (hn : vs.length ≤ 20) (h : ∀ v ∈ vs, v.ok w) (hf : ∀ v ∈ vs, v.few) : (Wm.listE Wm.textE).dom (vs.map V.enc) :=
  ⟨by rw [List.length_map]; omega, fun z hz => by
    obtain ⟨v, hv, rfl⟩ := List.mem_map.1 hz
    have := V.enc_len (h v hv) (hf v hv)
    show v.enc.length ≤ 9223372036854775807; omega⟩
theorem encs_list {vs : List V} {w : World} (hn : vs.length ≤ 20) (h : ∀ v ∈ vs, v.ok w) (hf : ∀ v ∈ vs, v.few) : ((Wm.listE Wm.textE).f (vs.map V.enc)).length ≤ 8100000 := by
  have h1 := encs_flat h hf
  have h2 := Lib.itoa_length_le (vs.map V.enc).length (by omega) (by rw [List.length_map]; omega)
  rw [Wm.listE_f]; simp only [List.length_append, List.length_cons, List.length_nil]; omega

theorem own_fr {w w' : World} {B e s n : Nat} {v : Value} {xs : List Value} (h : w.ownsRow B e s v n xs) (hf : Fr w w') : w'.ownsRow B e s v n xs :=
  h.kept hf (by cases v.ownBlock <;> simp)
theorem own_encs {w : World} {B e n : Nat} {x : Value} {vs : List V} (h : w.ownsRow B e 1 x n ((vs.take vs.length).map fun v => Value.string (S v.enc))) :
    IsSl w x ((vs.map V.enc).map fun z => Value.string (S z)) := by
  rw [List.take_length] at h
  rw [List.map_map]
  exact (IsSlB.own h).sl
theorem IsSl.encs {w : World} {x : Value} {vs : List V} (h : IsSl w x ((vs.map V.enc).map fun z => Value.string (S z))) (hp : 0 < vs.length) :
    ∃ b o c, x = .slice (some ⟨b, o, none⟩) vs.length c ∧ ∀ (k : Nat) (hk : k < vs.length), w.cell? ⟨b, o + k, none⟩ = some (.string (S vs[k].enc)) := by
  rcases h with ⟨h, _⟩ | ⟨b, o, c, hv, hc⟩
  · have := congrArg List.length h
    simp only [List.length_map, List.length_nil] at this
    omega
  · refine ⟨b, o, c, by simpa using hv, fun k hk => hc k _ ?_⟩
    simp [hk]

set_option maxHeartbeats 4000000 in
set_option maxRecDepth 100000 in
theorem nests_at (b o c : Nat) (vs : List V) (w : World) (hat : ∀ (k : Nat) (h : k < vs.length), At w b (o + k * 5) vs[k]) (hn : vs.length ≤ maxLen) (hp : 0 < vs.length) (hB : fewB vs = true) (ht : Tab w) :
    Calls Tryd.prog 8 #[.slice (some ⟨b, o, none⟩) vs.length c] w fun e w' => e = .returned (.bool true) ∧ Fr w w' := by
  obtain ⟨i0, hi, hz0, hz1, hz2⟩ := info_parts infoStr
  obtain ⟨hn20, hfew, _⟩ := fewB_true hB
  have hok : ∀ v ∈ vs, v.ok w := fun v hv => by
    obtain ⟨k, hk, rfl⟩ := List.mem_iff_getElem.1 hv
    exact (hat k hk).ok
  have HLF := Lib.hid (encs_flat hok hfew)
  have HLD := Lib.hid (encs_dom hn20 hok hfew)
  have hll := encs_list hn20 hok hfew
  have HLL := Lib.hid hll
  have HA := Lib.hid hat
  have HF := Lib.hid hfew
  have HO := Lib.hid hok
  clear hat hfew hok hll
  go_enter Tryd.func8, Tryd.ntmps8
  go_wp2_with fail
  refine (small_any _ ht).mono ?_
  rintro e w1 ⟨rfl, hf1⟩
  go_wp2_with fail
  refine (few_any _ vs _ (.inr ⟨b, o, c, rfl, fun k hk => (HA.out k hk).fr hf1⟩) hn).mono ?_
  rintro e w2 ⟨rfl, hf2⟩
  have hw2 := hf1.trans hf2
  clear hf1 hf2
  go_wp2_with fail
  go_loopw [4, 5] (fun p i wr => ∃ k : Nat, k ≤ vs.length ∧ i = .int .i64 k ∧ wr.ownsRow w.heap.size 9 1 p k ((vs.take k).map fun v => Value.string (S v.enc)) ∧ Fr w wr) (fun _ i _ => vs.length - (intOf i).toNat)
  case atStart => exact ⟨0, Nat.zero_le _, rfl, by simpa using World.ownsRow_nil w2 w.heap.size 9 1, hw2⟩
  case round =>
    obtain ⟨k, hk, rfl, hown, hwr⟩ := hrel
    clear hw2
    by_cases hlt : k < vs.length
    · have hat := (HA.out k hlt).fr hwr
      have HFK := Lib.hid (HF.out vs[k] (List.getElem_mem hlt))
      have HS : Hid ((vs.take (k + 1)).map (fun v => Value.string (S v.enc)) = (vs.take k).map (fun v => Value.string (S v.enc)) ++ [.string (S vs[k].enc)]) := by rw [Wm.take_succ vs k hlt, List.map_append]; rfl
      generalize vs[k] = v at *
      generalize hxs : (vs.take k).map (fun v => Value.string (S v.enc)) = xs at *
      have HXS := Lib.hid hxs
      clear hxs
      have c0 := hat.c0
      have c1 := hat.c1
      have c2 := hat.c2
      have c3 := hat.c3
      have c4 := hat.c4
      have HOK := Lib.hid hat.ok
      have htr := ht.fr hwr
      clear hat
      go_wp2_with fail
      refine (write_any v _ HOK.out HFK.out htr).mono ?_
      rintro e w3 ⟨rfl, hf3⟩
      have hw3 := hwr.trans hf3
      have hown3 := own_fr hown hf3
      have hsz := hw3.size
      clear c0 c1 c2 c3 c4 hf3 hwr htr hown
      go_wp2_with (at_builtin; refine wpList_append_own _ rfl _ _ 23 rfl w.heap.size 9 i0 (.string (S [])) 1 16 Tryd.underlying23 hi hz0 hz1 hz2 rfl (by decide) _ _ _ rfl (hown3.alloc _) ⟨w3.heap.size, 0, none⟩ 1 1 [.string (S v.enc)] rfl rfl ?c1 ?c2 ?c3 ?c4 ?c5 ?_)
      case c1 =>
        intro j u hj
        match j, hj with
        | 0, hj => simp at hj; subst hj; simp [Addr.add]
      case c2 => intro u hu; simp at hu; subst hu; rfl
      case c3 => unfold maxLen; omega
      case c4 => omega
      case c5 => simp; omega
      intro v' w4 hown4 hgrow _
      have hw4 := (hw3.trans (Fr.alloc w3 (.cells #[.string (S v.enc)] 9))).grown hgrow (fun k hk => (hown3.lt k hk).1)
      clear hown3 hgrow hw3 hsz
      go_wp2_with fail
      go_roundw
      case rel => exact ⟨k + 1, by omega, by go_num, by rw [HS.out]; exact hown4, hw4⟩
      case measure => simp [intOf]; omega
    · have hkk : k = vs.length := by omega
      subst hkk
      have hsl := own_encs hown
      have htr := ht.fr hwr
      have hlm : (vs.map V.enc).length = vs.length := List.length_map ..
      have hzl : ∀ z ∈ vs.map V.enc, z.length ≤ 4611686018427387904 := fun z hz => by
        obtain ⟨v, hv, rfl⟩ := List.mem_map.1 hz
        have := V.enc_len (HO.out v hv) (HF.out v hv)
        omega
      have HSL := Lib.hid hsl
      have HZL := Lib.hid hzl
      have HIS := Lib.hid (fun (w' : World) (x : Value) (h : IsSl w' x ((vs.map V.enc).map fun z => Value.string (S z))) => h.encs hp)
      clear hsl hzl hown hlt hk
      generalize hzs : vs.map V.enc = zs at *
      clear hzs
      have hfl := HLF.out
      have hlL := HLL.out
      go_wp2_with fail
      refine (texts_any _ zs wr HSL.out (by omega) (by omega) HZL.out htr).mono ?_
      rintro e w3 ⟨rfl, hf3⟩
      have hw3 := hwr.trans hf3
      have ht3 := htr.fr hf3
      clear hf3 hwr htr hfl HSL HZL HLF HLL
      have HL := Lib.hid (rfl : (Wm.listE Wm.textE).f zs = (Wm.listE Wm.textE).f zs)
      generalize hL : (Wm.listE Wm.textE).f zs = L at *
      have HE := Lib.hid hL
      clear hL HL
      go_wp2_with fail
      refine (text_any L w3 (by omega) ht3).mono ?_
      rintro e w4 ⟨rfl, hf4⟩
      have hw4 := hw3.trans hf4
      clear hf4 hw3 ht3
      have htl : (Wm.textE.f L).length ≤ 8200000 := by
        have h3 := Lib.itoa_length_le L.length (by omega) (by omega)
        have h4 : (Wm.textE.f L).length = (Lib.itoa L.length).length + (L.length + 2) := by simp [Wm.textE_f]
        omega
      go_wp2_with fail
      refine (open_any (Wm.textE.f L) w4).mono ?_
      rintro e w5 ⟨rfl, hrd5, hf5⟩
      have hw5 := hw4.trans hf5
      have hsa := hw4.size
      clear hf5 hw4
      generalize w4.heap.size = a at *
      go_wp2_with fail
      refine (rText_any hrd5 (by omega)).mono ?_
      rintro e w6 ⟨hg, hf6⟩
      obtain ⟨rfl, hrd6⟩ := hg.at (q := []) Wm.textE_pf (show L.length ≤ 9223372036854775807 by omega) (List.append_nil _).symm
      have hw6 := hw5.below.trans (hf6.below hsa hw5.size)
      clear hf6 hw5 hg hrd5
      go_wp2_with fail
      refine (open_any L w6).mono ?_
      rintro e w7 ⟨rfl, hrd7, hf7⟩
      have hw7 := (Fr.of_below hw6).trans hf7
      have hrd6 := hrd6.fr hf7
      have hsb := (Fr.of_below hw6).size
      clear hf7 hw6
      generalize w6.heap.size = b7 at *
      go_wp2_with fail
      refine (done_any hrd6).mono ?_
      rintro e w8 ⟨rfl, rfl⟩
      go_wp2_with fail
      refine (rTexts_any hrd7 (by omega) (by simp)).mono ?_
      rintro e w9 ⟨hg, hf9⟩
      obtain ⟨x, rfl, hs, hrd9⟩ := hg.at (q := []) (l := zs) Wm.textE_pf HLD.out (by rw [List.append_nil]; exact HE.out.symm)
      obtain ⟨gb, go, gc, rfl, hgc⟩ := HIS.out _ _ hs.sl
      have hw9 := Fr.of_below (hw7.below.trans (hf9.below hsb hw7.size))
      have HG := Lib.hid hgc
      clear hf9 hw7 hg hrd7 hs hgc hrd6 HIS
      go_wp2_with fail
      refine (done_any hrd9).mono ?_
      rintro e w10 ⟨rfl, rfl⟩
      clear hrd9
      go_wp2_with fail
      go_loopw [9] (fun i wr => ∃ k : Nat, k ≤ vs.length ∧ i = .int .i64 k ∧ Fr w10 wr) (fun i _ => vs.length - (intOf i).toNat)
      case atStart => exact ⟨0, Nat.zero_le _, rfl, Fr.refl _⟩
      case round =>
        obtain ⟨j, hj, rfl, hwr⟩ := hrel
        by_cases hjl : j < vs.length
        · have hat0 := HA.out j hjl
          have hwx := hw9.trans hwr
          have HFK := Lib.hid (HF.out vs[j] (List.getElem_mem hjl))
          have HOK0 := Lib.hid hat0.ok
          have hgj := hwr.cell (HG.out j hjl)
          have hat1 := hat0.fr hwx
          generalize vs[j] = v at *
          have HAT := Lib.hid hat1
          clear hat0 hat1
          go_wp2_with fail
          refine (open_any v.enc wr).mono ?_
          rintro e w11 ⟨rfl, hrd11, hf11⟩
          have hat := HAT.out.fr hf11
          have hx11 := hwx.trans hf11
          have hy11 := hwr.trans hf11
          have hsx := hwx.size
          have hsy := hwr.size
          have HRD : Hid (Rd 54 wr.heap.size (v.enc ++ []) false w11) := Lib.hid (by rw [List.append_nil]; exact hrd11)
          have HLL : Hid ((v.enc ++ []).length ≤ 4294967296) := Lib.hid (by
            have := V.enc_len HOK0.out HFK.out
            rw [List.append_nil]; omega)
          have c0 := hat.c0
          have c1 := hat.c1
          have c2 := hat.c2
          have c3 := hat.c3
          have c4 := hat.c4
          clear hat hgj HAT hf11 hwx hwr hrd11
          generalize wr.heap.size = rb at *
          go_wp2_with fail
          refine (equal_any v rb [] w w11 HOK0.out hx11.below hsx HFK.out HRD.out HLL.out).mono ?_
          rintro e w12 ⟨rfl, hrd12, hf12⟩
          have hy12 := Fr.of_below (hy11.below.trans (hf12.below hsy hy11.size))
          clear c0 c1 c2 c3 c4 hf12 hx11 hy11
          go_wp2_with fail
          refine (done_any hrd12).mono ?_
          rintro e w13 ⟨rfl, rfl⟩
          go_wp2_with fail
          go_roundw
          case rel => exact ⟨j + 1, by omega, by go_num, hy12⟩
          case measure => simp [intOf]; omega
        · go_wp2_with fail
          go_ret
          exact ⟨rfl, hw9.trans hwr⟩

set_option maxHeartbeats 4000000 in
set_option maxRecDepth 100000 in
theorem nests_none (ad : Option Addr) (c : Nat) (w : World) (hB : fewB [] = true) (ht : Tab w) :
    Calls Tryd.prog 8 #[.slice ad 0 c] w fun e w' => e = .returned (.bool true) ∧ Fr w w' := by
  have HLD : Hid ((Wm.listE Wm.textE).dom ([] : List (List UInt8))) := Lib.hid ⟨by simp, by simp⟩
  have hll : ((Wm.listE Wm.textE).f ([] : List (List UInt8))).length ≤ 8100000 := by
    have h2 := Lib.itoa_length_le 0 (by omega) (by omega)
    rw [Wm.listE_f]; simp only [List.length_append, List.length_cons, List.length_nil, List.flatMap_nil]; simp at h2 ⊢; omega
  have HLL := Lib.hid hll
  clear hll
  go_enter Tryd.func8, Tryd.ntmps8
  go_wp2_with fail
  refine (small_any _ ht).mono ?_
  rintro e w1 ⟨rfl, hf1⟩
  go_wp2_with fail
  refine (few_any _ [] _ (.inl ⟨rfl, _, _, rfl⟩) (by simp)).mono ?_
  rintro e w2 ⟨rfl, hf2⟩
  have hw2 := hf1.trans hf2
  clear hf1 hf2
  go_wp2_with fail
  go_loopw [4, 5] (fun p i wr => p = .slice none 0 0 ∧ i = .int .i64 0 ∧ wr = w2) (fun _ _ _ => 0)
  case atStart => exact ⟨rfl, rfl, rfl⟩
  case round =>
    obtain ⟨rfl, rfl, rfl⟩ := hrel
    have htr := ht.fr hw2
    have HSL : Hid (IsSl wr (.slice none 0 0) (([] : List (List UInt8)).map fun z => Value.string (S z))) := Lib.hid (.inl ⟨rfl, _, _, rfl⟩)
    have hlL := HLL.out
    go_wp2_with fail
    refine (texts_any _ [] wr HSL.out (by simp) (by simp) (by simp) htr).mono ?_
    rintro e w3 ⟨rfl, hf3⟩
    have hw3 := hw2.trans hf3
    have ht3 := htr.fr hf3
    clear hf3 hw2 htr HSL HLL
    generalize hL : (Wm.listE Wm.textE).f [] = L at *
    have HE := Lib.hid hL
    clear hL
    go_wp2_with fail
    refine (text_any L w3 (by omega) ht3).mono ?_
    rintro e w4 ⟨rfl, hf4⟩
    have hw4 := hw3.trans hf4
    clear hf4 hw3 ht3
    have htl : (Wm.textE.f L).length ≤ 8200000 := by
      have h3 := Lib.itoa_length_le L.length (by omega) (by omega)
      have h4 : (Wm.textE.f L).length = (Lib.itoa L.length).length + (L.length + 2) := by simp [Wm.textE_f]
      omega
    go_wp2_with fail
    refine (open_any (Wm.textE.f L) w4).mono ?_
    rintro e w5 ⟨rfl, hrd5, hf5⟩
    have hw5 := hw4.trans hf5
    have hsa := hw4.size
    clear hf5 hw4
    generalize w4.heap.size = a at *
    go_wp2_with fail
    refine (rText_any hrd5 (by omega)).mono ?_
    rintro e w6 ⟨hg, hf6⟩
    obtain ⟨rfl, hrd6⟩ := hg.at (q := []) Wm.textE_pf (show L.length ≤ 9223372036854775807 by omega) (List.append_nil _).symm
    have hw6 := hw5.below.trans (hf6.below hsa hw5.size)
    clear hf6 hw5 hg hrd5
    go_wp2_with fail
    refine (open_any L w6).mono ?_
    rintro e w7 ⟨rfl, hrd7, hf7⟩
    have hw7 := (Fr.of_below hw6).trans hf7
    have hrd6 := hrd6.fr hf7
    have hsb := (Fr.of_below hw6).size
    clear hf7 hw6
    generalize w6.heap.size = b7 at *
    go_wp2_with fail
    refine (done_any hrd6).mono ?_
    rintro e w8 ⟨rfl, rfl⟩
    go_wp2_with fail
    refine (rTexts_any hrd7 (by omega) (by simp)).mono ?_
    rintro e w9 ⟨hg, hf9⟩
    obtain ⟨x, rfl, hs, hrd9⟩ := hg.at (q := []) (l := []) Wm.textE_pf HLD.out (by rw [List.append_nil]; exact HE.out.symm)
    obtain ⟨ga, gc, rfl⟩ : ∃ ga gc, x = .slice ga 0 gc := by
      obtain ⟨ga, gc, h⟩ := hs.sl.len
      exact ⟨ga, gc, h⟩
    have hw9 := Fr.of_below (hw7.below.trans (hf9.below hsb hw7.size))
    clear hf9 hw7 hg hrd7 hs hrd6
    go_wp2_with fail
    refine (done_any hrd9).mono ?_
    rintro e w10 ⟨rfl, rfl⟩
    clear hrd9
    go_wp2_with fail
    go_loopw [9] (fun i wr => i = .int .i64 0 ∧ wr = w10) (fun i _ => 0)
    case atStart => exact ⟨rfl, rfl⟩
    case round =>
      obtain ⟨rfl, rfl⟩ := hrel
      go_wp2_with fail
      go_ret
      exact ⟨rfl, hw9⟩

set_option maxHeartbeats 4000000 in
set_option maxRecDepth 100000 in
theorem nests_out (v : Value) (vs : List V) (w : World) (h : IsVs w v vs) (hn : vs.length ≤ maxLen) (hB : fewB vs = false) (ht : Tab w) :
    Calls Tryd.prog 8 #[v] w fun e w' => e = .returned (.bool true) ∧ Fr w w' := by
  have HV := Lib.hid h
  clear h
  go_enter Tryd.func8, Tryd.ntmps8
  go_wp2_with fail
  refine (small_any _ ht).mono ?_
  rintro e w1 ⟨rfl, hf1⟩
  go_wp2_with fail
  refine (few_any v vs _ (HV.out.fr hf1) hn).mono ?_
  rintro e w2 ⟨rfl, hf2⟩
  go_wp2_with fail
  go_ret
  exact ⟨rfl, hf1.trans hf2⟩

theorem nests_law (v : Value) (vs : List V) (w : World) (h : IsVs w v vs) (hn : vs.length ≤ maxLen) (ht : Tab w) :
    Calls Tryd.prog 8 #[v] w fun e w' => e = .returned (.bool true) ∧ Fr w w' := by
  cases hB : fewB vs with
  | false => exact nests_out v vs w h hn hB ht
  | true =>
    rcases h with ⟨rfl, a, c, rfl⟩ | ⟨b, o, c, rfl, hc⟩
    · exact nests_none a c w hB ht
    · by_cases hp : 0 < vs.length
      · exact nests_at b o c vs w hc hn hp hB ht
      · obtain rfl : vs = [] := List.length_eq_zero_iff.1 (by omega)
        exact nests_none _ c w hB ht
end Go.Proofs.YtjabpagfoclajaaDoor
