/-
  KeysDelegate: the two regions that draw their order.
-/
import Derived.Test.YtddeblcoglhdnaaLr
namespace Go.Proofs.Ytddeblcoglhdnaa
open Go.RowKit Mb Go.BigFrame

/-- Region k of a text. -/
def regionOf (k : Nat) : Code → Option Code
  | .region id ops d => if id = k then some (.region id ops d) else none
  | .seq a b => match regionOf k a with
    | some c => some c
    | none => regionOf k b
  | .cond _ a b => match regionOf k a with
    | some c => some c
    | none => regionOf k b
  | .block _ c => regionOf k c
  | .scope c => regionOf k c
  | .loop c => regionOf k c
  | _ => none
noncomputable def reg6 : Code := ((Try.f6.body.bind (regionOf 6)).getD .skip)
noncomputable def reg18 : Code := ((Try.f6.body.bind (regionOf 18)).getD .skip)
theorem lg_oks {w : World} {l : List Ft} {n : Txt} {a til : Int} {k1 k2 : Value} (h : ∀ f ∈ l, FtOk w f) (h1 : FtOk w (toF n a k1)) (h2 : Sl w k2 [a + 5]) : ∀ f ∈ lgF l n a til k1 k2, FtOk w f := by
  intro f hf
  rcases List.mem_append.1 hf with hf | hf
  · exact h f hf
  · simp only [List.mem_cons, List.not_mem_nil, or_false] at hf
    rcases hf with rfl | rfl
    · exact h1
    · exact mkF_ok _ _ _ _ _ _ _ _ h2
theorem add_oks {w : World} {l : List Ft} {g : Ft} (h : ∀ f ∈ l, FtOk w f) (h1 : FtOk w g) : ∀ f ∈ l ++ [g], FtOk w f := by
  intro f hf
  rcases List.mem_append.1 hf with hf | hf
  · exact h f hf
  · rw [List.mem_singleton] at hf; subst hf; exact h1
set_option maxRecDepth 100000 in
set_option maxHeartbeats 4000000 in
theorem reg6_any {av : Option Addr} {ac B a : Nat} {l : List Ft} {n : Txt} {til : Int} {k1 : Value} {w5 : World} {Q : Exit → Act → World → Prop} {x2 x4 x5 x6 x7 x8 x9 x12 x13 x14 x15 x16 x17 x18 x19 x20 x21 x22 x23 x24 x25 x26 x27 x28 x29 x30 x31 x32 x33 x34 x35 x36 x37 x38 x39 x40 x41 x42 x43 x44 x45 x46 x47 x48 x49 x50 x51 x52 x53 x54 x55 x56 x57 x58 x59 x60 x61 x62 x63 x64 x65 x66 x67 x68 x69 x70 x71 x72 x73 x74 x75 x76 x77 x78 x79 x80 x81 x82 x83 x84 x85 x86 x87 x88 x89 x90 x91 x92 x93 x94 x95 x96 x97 x98 x99 x100 x101 x102 x103 x104 x105 x106 x107 x108 x109 x110 x111 x112 x113 x114 x115 x116 x117 x118 x119 x120 x121 x122 x123 x124 x125 x126 x127 x128 x129 x130 x131 x132 x133 x134 x135 x136 x137 x138 x139 x140 x141 x142 x143 x144 x145 x146 x147 x148 x149 x150 x151 x152 x153 x154 x155 x156 x157 x158 x159 x160 x161 x162 x163 x164 x165 x166 x167 x168 x169 x170 x171 x172 x173 x174 x175 x176 x177 x178 x179 x180 x181 x182 x183 x184 x185 x186 x187 x188 x189 x190 x191 x192 x193 x194 x195 x196 x197 x198 x199 x200 : Value}
    (hv : FSl w5 (.slice av l.length ac) l) (hto : FtAt w5 B 0 (toF n a k1)) (h12 : l.length ≤ 12) (hal : a < 190) (hQP : ∀ (c : _) (a : Act) (d : _) (v : Value) (w : World), Q (.panic c) (a.put d v) w → Q (.panic c) a w)
    (hK : ∀ v12 w6 k2 y42 y43 y44 y45 y46 y47 y48 y49 y50 y51 y52 y53, FSl w6 v12 (lgF l n a til k1 k2) → Fr w5 w6 → Q .normal ⟨#[.slice av l.length ac, .string (S n), x2, .int .i64 til, x4, x5, x6, x7, x8, x9, .int .i64 (a : Nat), .pointer (some ⟨B, 0, none⟩), v12, x13, x14, x15, x16, x17, x18, x19, x20, x21, x22, x23, x24, x25, x26, x27, x28, x29, x30, x31, x32, x33, x34, x35, x36, x37, x38, x39, x40, x41, y42, y43, y44, y45, y46, y47, y48, y49, y50, y51, y52, y53, x54, x55, x56, x57, x58, x59, x60, x61, x62, x63, x64, x65, x66, x67, x68, x69, x70, x71, x72, x73, x74, x75, x76, x77, x78, x79, x80, x81, x82, x83, x84, x85, x86, x87, x88, x89, x90, x91, x92, x93, x94, x95, x96, x97, x98, x99, x100, x101, x102, x103, x104, x105, x106, x107, x108, x109, x110, x111, x112, x113, x114, x115, x116, x117, x118, x119, x120, x121, x122, x123, x124, x125, x126, x127, x128, x129, x130, x131, x132, x133, x134, x135, x136, x137, x138, x139, x140, x141, x142, x143, x144, x145, x146, x147, x148, x149, x150, x151, x152, x153, x154, x155, x156, x157, x158, x159, x160, x161, x162, x163, x164, x165, x166, x167, x168, x169, x170, x171, x172, x173, x174, x175, x176, x177, x178, x179, x180, x181, x182, x183, x184, x185, x186, x187, x188, x189, x190, x191, x192, x193, x194, x195, x196, x197, x198, x199, x200], []⟩ w6) :
    reg6.wp Try.prog Q ⟨#[.slice av l.length ac, .string (S n), x2, .int .i64 til, x4, x5, x6, x7, x8, x9, .int .i64 (a : Nat), .pointer (some ⟨B, 0, none⟩), x12, x13, x14, x15, x16, x17, x18, x19, x20, x21, x22, x23, x24, x25, x26, x27, x28, x29, x30, x31, x32, x33, x34, x35, x36, x37, x38, x39, x40, x41, x42, x43, x44, x45, x46, x47, x48, x49, x50, x51, x52, x53, x54, x55, x56, x57, x58, x59, x60, x61, x62, x63, x64, x65, x66, x67, x68, x69, x70, x71, x72, x73, x74, x75, x76, x77, x78, x79, x80, x81, x82, x83, x84, x85, x86, x87, x88, x89, x90, x91, x92, x93, x94, x95, x96, x97, x98, x99, x100, x101, x102, x103, x104, x105, x106, x107, x108, x109, x110, x111, x112, x113, x114, x115, x116, x117, x118, x119, x120, x121, x122, x123, x124, x125, x126, x127, x128, x129, x130, x131, x132, x133, x134, x135, x136, x137, x138, x139, x140, x141, x142, x143, x144, x145, x146, x147, x148, x149, x150, x151, x152, x153, x154, x155, x156, x157, x158, x159, x160, x161, x162, x163, x164, x165, x166, x167, x168, x169, x170, x171, x172, x173, x174, x175, x176, x177, x178, x179, x180, x181, x182, x183, x184, x185, x186, x187, x188, x189, x190, x191, x192, x193, x194, x195, x196, x197, x198, x199, x200], []⟩ w5 := by
  conv => arg 2; whnf
  have HV5 := Lib.hid hv
  have HTO := Lib.hid hto
  have HSZ : Hid (l.length * 408 ≤ 140737488355328) := Lib.hid (by omega)
  have HSZ2 : Hid ((l.length + 2) * 408 ≤ 140737488355328) := Lib.hid (by omega)
  have HWR : Hid (IntKind.i64.wrap (((a : Nat) : Int) + 5) = (a : Int) + 5) := Lib.hid (IntWalk.i64_in _ (by omega))
  clear hv hto
  refine wp_region_held_drew (S := fun w' => Fr w5 w') (by kernel_rfl) (Fr.drew w5) (fun hH => ?_)
  have HF := Lib.hid (Fr.drew w5)
  refine any_move (oi := ⟨some 43, _, _, _, _, _⟩) 1 (.tmp 0) (.slice av l.length ac) rfl rfl rfl (by kernel_rfl) (by kernel_rfl) (by kernel_rfl) (fun _ _ _ h => hQP _ _ _ _ _ h) rfl hH ?_
  simp only [Act.put, List.setIfInBounds_toArray, List.set_cons_zero, List.set_cons_succ]
  refine any_load_fact (oi := ⟨some 45, _, _, _, _, _⟩) 3 (.tmp 11) (B) (0) (toF n a k1) rfl rfl rfl (by kernel_rfl) (by kernel_rfl) (by kernel_rfl) (fun _ _ _ h => hQP _ _ _ _ _ h) rfl (fun w' hw => HTO.out.fr hw) hH ?_
  simp only [Act.put, List.setIfInBounds_toArray, List.set_cons_zero, List.set_cons_succ]
  refine any_move (oi := ⟨some 46, _, _, _, _, _⟩) 4 (.tmp 1) (.string (S n)) rfl rfl rfl (by kernel_rfl) (by kernel_rfl) (by kernel_rfl) (fun _ _ _ h => hQP _ _ _ _ _ h) rfl hH ?_
  simp only [Act.put, List.setIfInBounds_toArray, List.set_cons_zero, List.set_cons_succ]
  refine any_move (oi := ⟨some 47, _, _, _, _, _⟩) 5 (.tmp 10) (.int .i64 (a : Nat)) rfl rfl rfl (by kernel_rfl) (by kernel_rfl) (by kernel_rfl) (fun _ _ _ h => hQP _ _ _ _ _ h) rfl hH ?_
  simp only [Act.put, List.setIfInBounds_toArray, List.set_cons_zero, List.set_cons_succ]
  refine any_take (oi := ⟨some 48, _, _, _, _, _⟩) 6 (.int .i64 ((a : Int) + 5)) rfl rfl (by kernel_rfl) (by kernel_rfl) (by kernel_rfl) (fun _ _ _ h => hQP _ _ _ _ _ h) (run_add (.tmp 47) 5 (a : Nat) ((a : Int) + 5) rfl rfl HWR.out) hH ?_
  simp only [Act.put, List.setIfInBounds_toArray, List.set_cons_zero, List.set_cons_succ]
  refine any_move (oi := ⟨some 50, _, _, _, _, _⟩) 8 (.tmp 3) (.int .i64 til) rfl rfl rfl (by kernel_rfl) (by kernel_rfl) (by kernel_rfl) (fun _ _ _ h => hQP _ _ _ _ _ h) rfl hH ?_
  simp only [Act.put, List.setIfInBounds_toArray, List.set_cons_zero, List.set_cons_succ]
  refine wpAnyH_ready (rs := [0, 7]) (by kernel_rfl) (by simp) ?_
  refine AllReadyH.cons rfl (fun K hK => ?_) (AllReadyH.cons rfl (fun K hK => ?_) AllReadyH.nil)
  · have hB := HF.out.size
    refine step_row0F (op := ⟨some 42, _, _, _, _, _⟩) (by rfl) (by rfl) ?_
    intro B42 u1 hrow hfr
    have HF := Lib.hid (HF.out.trans hfr)
    have HBS := Lib.hid hfr.size
    have HB := Lib.hid hB
    have HROW := Lib.hid hrow
    clear hrow hfr hB
    clear hH
    refine hK.out _ _ HF.out (fun hH => ?_)
    clear hK K
    simp only [Act.put, List.setIfInBounds_toArray, List.set_cons_zero, List.set_cons_succ]
    refine wpAnyH_ready (rs := [2, 7]) (by kernel_rfl) (by simp) ?_
    refine AllReadyH.cons rfl (fun K hK => ?_) (AllReadyH.cons rfl (fun K hK => ?_) AllReadyH.nil)
    · refine step_append0_facts (op := ⟨some 44, _, _, _, _, _⟩) (by rfl) (.tmp 42) (.tmp 43) (by rfl) _ B42 (by rfl) HROW.out _ l (by rfl) (HV5.out.fr HF.out) HSZ.out HBS.out ?_
      intro v44 u2 h44 hfr
      have HBS := Lib.hid (Nat.le_trans HBS.out hfr.size)
      have HF := Lib.hid (HF.out.trans hfr)
      have H44 := Lib.hid h44
      clear h44 hfr HROW
      clear hH
      refine hK.out _ _ HF.out (fun hH => ?_)
      clear hK K
      simp only [Act.put, List.setIfInBounds_toArray, List.set_cons_zero, List.set_cons_succ]
      refine wpAnyH_ready (rs := [7]) (by kernel_rfl) (by simp) ?_
      refine AllReadyH.cons rfl (fun K hK => ?_) AllReadyH.nil
      refine step_lit1 (op := ⟨some 49, _, _, _, _, _⟩) (by rfl) (.tmp 48) (by rfl) ((a : Int) + 5) (by rfl) ?_
      intro bk u3 hbk hfr
      have H44 := Lib.hid (own_fr H44.out hfr)
      have HBS := Lib.hid (Nat.le_trans HBS.out hfr.size)
      have HF := Lib.hid (HF.out.trans hfr)
      have HBK := Lib.hid hbk
      clear hbk hfr
      clear hH
      refine hK.out _ _ HF.out (fun hH => ?_)
      clear hK K
      simp only [Act.put, List.setIfInBounds_toArray, List.set_cons_zero, List.set_cons_succ]
      refine any_take (oi := ⟨some 51, _, _, _, _, _⟩) 9 (dgF n a (.slice (some ⟨bk, 0, none⟩) 1 1) til).v rfl rfl (by kernel_rfl) (by kernel_rfl) (by kernel_rfl) (fun _ _ _ h => hQP _ _ _ _ _ h) (run_build_op5 6 1 til (.const (.int .i64 6)) (.tmp 46) (.tmp 49) (.const (.int .i64 1)) (.tmp 50) n (some ⟨bk, 0, none⟩) 1 1 [(a : Int) + 5] rfl rfl rfl rfl rfl rfl) hH ?_
      simp only [Act.put, List.setIfInBounds_toArray, List.set_cons_zero, List.set_cons_succ]
      refine wpAnyH_ready (rs := [10]) (by kernel_rfl) (by simp) ?_
      refine AllReadyH.cons rfl (fun K hK => ?_) AllReadyH.nil
      refine step_lit_fact2 (op := ⟨some 52, _, _, _, _, _⟩) (by rfl) (.tmp 45) (.tmp 51) (by rfl) (toF n a k1) (dgF n a (.slice (some ⟨bk, 0, none⟩) 1 1) til) (by rfl) (by rfl) (HTO.out.fr HF.out).ok (mkF_ok _ _ _ _ _ _ _ _ (sl_blk HBK.out)) ?_
      intro v52 u4 hp hfr
      have H44 := Lib.hid (own_fr H44.out hfr)
      have HBK := Lib.hid (hfr.heap HBK.out)
      have HBS := Lib.hid (Nat.le_trans HBS.out hfr.size)
      have HF := Lib.hid (HF.out.trans hfr)
      have HP := Lib.hid hp
      clear hp hfr
      clear hH
      refine hK.out _ _ HF.out (fun hH => ?_)
      clear hK K
      simp only [Act.put, List.setIfInBounds_toArray, List.set_cons_zero, List.set_cons_succ]
      refine wpAnyH_ready (rs := [11]) (by kernel_rfl) (by simp) ?_
      refine AllReadyH.cons rfl (fun K hK => ?_) AllReadyH.nil
      refine step_append_facts (op := ⟨some 53, _, _, _, _, _⟩) (by rfl) (.tmp 44) (.tmp 52) (by rfl) _ v44 _ l (by rfl) H44.out v52 [toF n a k1, dgF n a (.slice (some ⟨bk, 0, none⟩) 1 1) til] (by rfl) HP.out HSZ2.out HBS.out ?_
      intro v53 w6 hown hgr
      have HF6 := Lib.hid (Fr.growO HF.out hgr (fun k hk => Nat.le_trans HB.out (H44.out.lt k hk).1))
      have hbk := blk_grown HBK.out H44.out hgr
      have HL6 := Lib.hid (FSl.own (l := lgF l n a til k1 (.slice (some ⟨bk, 0, none⟩) 1 1)) hown (by rw [lg_len]; rfl) (lg_oks (HV5.out.fr HF6.out).oks (HTO.out.fr HF6.out).ok (sl_blk hbk)))
      clear hown hgr hbk hH
      refine hK.out _ _ HF6.out (fun hH => ?_)
      clear hK K
      simp only [Act.put, List.setIfInBounds_toArray, List.set_cons_zero, List.set_cons_succ]
      refine any_assign (oi := ⟨some 12, _, _, _, _, _⟩) 12 (.tmp 53) (v53) rfl rfl rfl (by kernel_rfl) (by kernel_rfl) (by kernel_rfl) (fun _ _ _ h => hQP _ _ _ _ _ h) rfl hH ?_
      simp only [Act.put, List.setIfInBounds_toArray, List.set_cons_zero, List.set_cons_succ]
      refine wpAnyH_done (by kernel_rfl) ?_ _
      exact hK _ _ _ _ _ _ _ _ _ _ _ _ _ _ _ HL6.out HF6.out
    · refine step_lit1 (op := ⟨some 49, _, _, _, _, _⟩) (by rfl) (.tmp 48) (by rfl) ((a : Int) + 5) (by rfl) ?_
      intro bk u2 hbk hfr
      have HROW := Lib.hid (own_fr HROW.out hfr)
      have HBS := Lib.hid (Nat.le_trans HBS.out hfr.size)
      have HF := Lib.hid (HF.out.trans hfr)
      have HBK := Lib.hid hbk
      clear hbk hfr
      clear hH
      refine hK.out _ _ HF.out (fun hH => ?_)
      clear hK K
      simp only [Act.put, List.setIfInBounds_toArray, List.set_cons_zero, List.set_cons_succ]
      refine any_take (oi := ⟨some 51, _, _, _, _, _⟩) 9 (dgF n a (.slice (some ⟨bk, 0, none⟩) 1 1) til).v rfl rfl (by kernel_rfl) (by kernel_rfl) (by kernel_rfl) (fun _ _ _ h => hQP _ _ _ _ _ h) (run_build_op5 6 1 til (.const (.int .i64 6)) (.tmp 46) (.tmp 49) (.const (.int .i64 1)) (.tmp 50) n (some ⟨bk, 0, none⟩) 1 1 [(a : Int) + 5] rfl rfl rfl rfl rfl rfl) hH ?_
      simp only [Act.put, List.setIfInBounds_toArray, List.set_cons_zero, List.set_cons_succ]
      refine wpAnyH_ready (rs := [2, 10]) (by kernel_rfl) (by simp) ?_
      refine AllReadyH.cons rfl (fun K hK => ?_) (AllReadyH.cons rfl (fun K hK => ?_) AllReadyH.nil)
      · refine step_append0_facts (op := ⟨some 44, _, _, _, _, _⟩) (by rfl) (.tmp 42) (.tmp 43) (by rfl) _ B42 (by rfl) HROW.out _ l (by rfl) (HV5.out.fr HF.out) HSZ.out HBS.out ?_
        intro v44 u3 h44 hfr
        have HBK := Lib.hid (hfr.heap HBK.out)
        have HBS := Lib.hid (Nat.le_trans HBS.out hfr.size)
        have HF := Lib.hid (HF.out.trans hfr)
        have H44 := Lib.hid h44
        clear h44 hfr HROW
        clear hH
        refine hK.out _ _ HF.out (fun hH => ?_)
        clear hK K
        simp only [Act.put, List.setIfInBounds_toArray, List.set_cons_zero, List.set_cons_succ]
        refine wpAnyH_ready (rs := [10]) (by kernel_rfl) (by simp) ?_
        refine AllReadyH.cons rfl (fun K hK => ?_) AllReadyH.nil
        refine step_lit_fact2 (op := ⟨some 52, _, _, _, _, _⟩) (by rfl) (.tmp 45) (.tmp 51) (by rfl) (toF n a k1) (dgF n a (.slice (some ⟨bk, 0, none⟩) 1 1) til) (by rfl) (by rfl) (HTO.out.fr HF.out).ok (mkF_ok _ _ _ _ _ _ _ _ (sl_blk HBK.out)) ?_
        intro v52 u4 hp hfr
        have H44 := Lib.hid (own_fr H44.out hfr)
        have HBK := Lib.hid (hfr.heap HBK.out)
        have HBS := Lib.hid (Nat.le_trans HBS.out hfr.size)
        have HF := Lib.hid (HF.out.trans hfr)
        have HP := Lib.hid hp
        clear hp hfr
        clear hH
        refine hK.out _ _ HF.out (fun hH => ?_)
        clear hK K
        simp only [Act.put, List.setIfInBounds_toArray, List.set_cons_zero, List.set_cons_succ]
        refine wpAnyH_ready (rs := [11]) (by kernel_rfl) (by simp) ?_
        refine AllReadyH.cons rfl (fun K hK => ?_) AllReadyH.nil
        refine step_append_facts (op := ⟨some 53, _, _, _, _, _⟩) (by rfl) (.tmp 44) (.tmp 52) (by rfl) _ v44 _ l (by rfl) H44.out v52 [toF n a k1, dgF n a (.slice (some ⟨bk, 0, none⟩) 1 1) til] (by rfl) HP.out HSZ2.out HBS.out ?_
        intro v53 w6 hown hgr
        have HF6 := Lib.hid (Fr.growO HF.out hgr (fun k hk => Nat.le_trans HB.out (H44.out.lt k hk).1))
        have hbk := blk_grown HBK.out H44.out hgr
        have HL6 := Lib.hid (FSl.own (l := lgF l n a til k1 (.slice (some ⟨bk, 0, none⟩) 1 1)) hown (by rw [lg_len]; rfl) (lg_oks (HV5.out.fr HF6.out).oks (HTO.out.fr HF6.out).ok (sl_blk hbk)))
        clear hown hgr hbk hH
        refine hK.out _ _ HF6.out (fun hH => ?_)
        clear hK K
        simp only [Act.put, List.setIfInBounds_toArray, List.set_cons_zero, List.set_cons_succ]
        refine any_assign (oi := ⟨some 12, _, _, _, _, _⟩) 12 (.tmp 53) (v53) rfl rfl rfl (by kernel_rfl) (by kernel_rfl) (by kernel_rfl) (fun _ _ _ h => hQP _ _ _ _ _ h) rfl hH ?_
        simp only [Act.put, List.setIfInBounds_toArray, List.set_cons_zero, List.set_cons_succ]
        refine wpAnyH_done (by kernel_rfl) ?_ _
        exact hK _ _ _ _ _ _ _ _ _ _ _ _ _ _ _ HL6.out HF6.out
      · refine step_lit_fact2 (op := ⟨some 52, _, _, _, _, _⟩) (by rfl) (.tmp 45) (.tmp 51) (by rfl) (toF n a k1) (dgF n a (.slice (some ⟨bk, 0, none⟩) 1 1) til) (by rfl) (by rfl) (HTO.out.fr HF.out).ok (mkF_ok _ _ _ _ _ _ _ _ (sl_blk HBK.out)) ?_
        intro v52 u3 hp hfr
        have HROW := Lib.hid (own_fr HROW.out hfr)
        have HBK := Lib.hid (hfr.heap HBK.out)
        have HBS := Lib.hid (Nat.le_trans HBS.out hfr.size)
        have HF := Lib.hid (HF.out.trans hfr)
        have HP := Lib.hid hp
        clear hp hfr
        clear hH
        refine hK.out _ _ HF.out (fun hH => ?_)
        clear hK K
        simp only [Act.put, List.setIfInBounds_toArray, List.set_cons_zero, List.set_cons_succ]
        refine wpAnyH_ready (rs := [2]) (by kernel_rfl) (by simp) ?_
        refine AllReadyH.cons rfl (fun K hK => ?_) AllReadyH.nil
        refine step_append0_facts (op := ⟨some 44, _, _, _, _, _⟩) (by rfl) (.tmp 42) (.tmp 43) (by rfl) _ B42 (by rfl) HROW.out _ l (by rfl) (HV5.out.fr HF.out) HSZ.out HBS.out ?_
        intro v44 u4 h44 hfr
        have HBK := Lib.hid (hfr.heap HBK.out)
        have HP := Lib.hid (HP.out.fr hfr)
        have HBS := Lib.hid (Nat.le_trans HBS.out hfr.size)
        have HF := Lib.hid (HF.out.trans hfr)
        have H44 := Lib.hid h44
        clear h44 hfr HROW
        clear hH
        refine hK.out _ _ HF.out (fun hH => ?_)
        clear hK K
        simp only [Act.put, List.setIfInBounds_toArray, List.set_cons_zero, List.set_cons_succ]
        refine wpAnyH_ready (rs := [11]) (by kernel_rfl) (by simp) ?_
        refine AllReadyH.cons rfl (fun K hK => ?_) AllReadyH.nil
        refine step_append_facts (op := ⟨some 53, _, _, _, _, _⟩) (by rfl) (.tmp 44) (.tmp 52) (by rfl) _ v44 _ l (by rfl) H44.out v52 [toF n a k1, dgF n a (.slice (some ⟨bk, 0, none⟩) 1 1) til] (by rfl) HP.out HSZ2.out HBS.out ?_
        intro v53 w6 hown hgr
        have HF6 := Lib.hid (Fr.growO HF.out hgr (fun k hk => Nat.le_trans HB.out (H44.out.lt k hk).1))
        have hbk := blk_grown HBK.out H44.out hgr
        have HL6 := Lib.hid (FSl.own (l := lgF l n a til k1 (.slice (some ⟨bk, 0, none⟩) 1 1)) hown (by rw [lg_len]; rfl) (lg_oks (HV5.out.fr HF6.out).oks (HTO.out.fr HF6.out).ok (sl_blk hbk)))
        clear hown hgr hbk hH
        refine hK.out _ _ HF6.out (fun hH => ?_)
        clear hK K
        simp only [Act.put, List.setIfInBounds_toArray, List.set_cons_zero, List.set_cons_succ]
        refine any_assign (oi := ⟨some 12, _, _, _, _, _⟩) 12 (.tmp 53) (v53) rfl rfl rfl (by kernel_rfl) (by kernel_rfl) (by kernel_rfl) (fun _ _ _ h => hQP _ _ _ _ _ h) rfl hH ?_
        simp only [Act.put, List.setIfInBounds_toArray, List.set_cons_zero, List.set_cons_succ]
        refine wpAnyH_done (by kernel_rfl) ?_ _
        exact hK _ _ _ _ _ _ _ _ _ _ _ _ _ _ _ HL6.out HF6.out
  · refine step_lit1 (op := ⟨some 49, _, _, _, _, _⟩) (by rfl) (.tmp 48) (by rfl) ((a : Int) + 5) (by rfl) ?_
    intro bk u1 hbk hfr
    have HF := Lib.hid (HF.out.trans hfr)
    have HBK := Lib.hid hbk
    clear hbk hfr
    clear hH
    refine hK.out _ _ HF.out (fun hH => ?_)
    clear hK K
    simp only [Act.put, List.setIfInBounds_toArray, List.set_cons_zero, List.set_cons_succ]
    refine any_take (oi := ⟨some 51, _, _, _, _, _⟩) 9 (dgF n a (.slice (some ⟨bk, 0, none⟩) 1 1) til).v rfl rfl (by kernel_rfl) (by kernel_rfl) (by kernel_rfl) (fun _ _ _ h => hQP _ _ _ _ _ h) (run_build_op5 6 1 til (.const (.int .i64 6)) (.tmp 46) (.tmp 49) (.const (.int .i64 1)) (.tmp 50) n (some ⟨bk, 0, none⟩) 1 1 [(a : Int) + 5] rfl rfl rfl rfl rfl rfl) hH ?_
    simp only [Act.put, List.setIfInBounds_toArray, List.set_cons_zero, List.set_cons_succ]
    refine wpAnyH_ready (rs := [0, 10]) (by kernel_rfl) (by simp) ?_
    refine AllReadyH.cons rfl (fun K hK => ?_) (AllReadyH.cons rfl (fun K hK => ?_) AllReadyH.nil)
    · have hB := HF.out.size
      refine step_row0F (op := ⟨some 42, _, _, _, _, _⟩) (by rfl) (by rfl) ?_
      intro B42 u2 hrow hfr
      have HBK := Lib.hid (hfr.heap HBK.out)
      have HF := Lib.hid (HF.out.trans hfr)
      have HBS := Lib.hid hfr.size
      have HB := Lib.hid hB
      have HROW := Lib.hid hrow
      clear hrow hfr hB
      clear hH
      refine hK.out _ _ HF.out (fun hH => ?_)
      clear hK K
      simp only [Act.put, List.setIfInBounds_toArray, List.set_cons_zero, List.set_cons_succ]
      refine wpAnyH_ready (rs := [2, 10]) (by kernel_rfl) (by simp) ?_
      refine AllReadyH.cons rfl (fun K hK => ?_) (AllReadyH.cons rfl (fun K hK => ?_) AllReadyH.nil)
      · refine step_append0_facts (op := ⟨some 44, _, _, _, _, _⟩) (by rfl) (.tmp 42) (.tmp 43) (by rfl) _ B42 (by rfl) HROW.out _ l (by rfl) (HV5.out.fr HF.out) HSZ.out HBS.out ?_
        intro v44 u3 h44 hfr
        have HBK := Lib.hid (hfr.heap HBK.out)
        have HBS := Lib.hid (Nat.le_trans HBS.out hfr.size)
        have HF := Lib.hid (HF.out.trans hfr)
        have H44 := Lib.hid h44
        clear h44 hfr HROW
        clear hH
        refine hK.out _ _ HF.out (fun hH => ?_)
        clear hK K
        simp only [Act.put, List.setIfInBounds_toArray, List.set_cons_zero, List.set_cons_succ]
        refine wpAnyH_ready (rs := [10]) (by kernel_rfl) (by simp) ?_
        refine AllReadyH.cons rfl (fun K hK => ?_) AllReadyH.nil
        refine step_lit_fact2 (op := ⟨some 52, _, _, _, _, _⟩) (by rfl) (.tmp 45) (.tmp 51) (by rfl) (toF n a k1) (dgF n a (.slice (some ⟨bk, 0, none⟩) 1 1) til) (by rfl) (by rfl) (HTO.out.fr HF.out).ok (mkF_ok _ _ _ _ _ _ _ _ (sl_blk HBK.out)) ?_
        intro v52 u4 hp hfr
        have H44 := Lib.hid (own_fr H44.out hfr)
        have HBK := Lib.hid (hfr.heap HBK.out)
        have HBS := Lib.hid (Nat.le_trans HBS.out hfr.size)
        have HF := Lib.hid (HF.out.trans hfr)
        have HP := Lib.hid hp
        clear hp hfr
        clear hH
        refine hK.out _ _ HF.out (fun hH => ?_)
        clear hK K
        simp only [Act.put, List.setIfInBounds_toArray, List.set_cons_zero, List.set_cons_succ]
        refine wpAnyH_ready (rs := [11]) (by kernel_rfl) (by simp) ?_
        refine AllReadyH.cons rfl (fun K hK => ?_) AllReadyH.nil
        refine step_append_facts (op := ⟨some 53, _, _, _, _, _⟩) (by rfl) (.tmp 44) (.tmp 52) (by rfl) _ v44 _ l (by rfl) H44.out v52 [toF n a k1, dgF n a (.slice (some ⟨bk, 0, none⟩) 1 1) til] (by rfl) HP.out HSZ2.out HBS.out ?_
        intro v53 w6 hown hgr
        have HF6 := Lib.hid (Fr.growO HF.out hgr (fun k hk => Nat.le_trans HB.out (H44.out.lt k hk).1))
        have hbk := blk_grown HBK.out H44.out hgr
        have HL6 := Lib.hid (FSl.own (l := lgF l n a til k1 (.slice (some ⟨bk, 0, none⟩) 1 1)) hown (by rw [lg_len]; rfl) (lg_oks (HV5.out.fr HF6.out).oks (HTO.out.fr HF6.out).ok (sl_blk hbk)))
        clear hown hgr hbk hH
        refine hK.out _ _ HF6.out (fun hH => ?_)
        clear hK K
        simp only [Act.put, List.setIfInBounds_toArray, List.set_cons_zero, List.set_cons_succ]
        refine any_assign (oi := ⟨some 12, _, _, _, _, _⟩) 12 (.tmp 53) (v53) rfl rfl rfl (by kernel_rfl) (by kernel_rfl) (by kernel_rfl) (fun _ _ _ h => hQP _ _ _ _ _ h) rfl hH ?_
        simp only [Act.put, List.setIfInBounds_toArray, List.set_cons_zero, List.set_cons_succ]
        refine wpAnyH_done (by kernel_rfl) ?_ _
        exact hK _ _ _ _ _ _ _ _ _ _ _ _ _ _ _ HL6.out HF6.out
      · refine step_lit_fact2 (op := ⟨some 52, _, _, _, _, _⟩) (by rfl) (.tmp 45) (.tmp 51) (by rfl) (toF n a k1) (dgF n a (.slice (some ⟨bk, 0, none⟩) 1 1) til) (by rfl) (by rfl) (HTO.out.fr HF.out).ok (mkF_ok _ _ _ _ _ _ _ _ (sl_blk HBK.out)) ?_
        intro v52 u3 hp hfr
        have HROW := Lib.hid (own_fr HROW.out hfr)
        have HBK := Lib.hid (hfr.heap HBK.out)
        have HBS := Lib.hid (Nat.le_trans HBS.out hfr.size)
        have HF := Lib.hid (HF.out.trans hfr)
        have HP := Lib.hid hp
        clear hp hfr
        clear hH
        refine hK.out _ _ HF.out (fun hH => ?_)
        clear hK K
        simp only [Act.put, List.setIfInBounds_toArray, List.set_cons_zero, List.set_cons_succ]
        refine wpAnyH_ready (rs := [2]) (by kernel_rfl) (by simp) ?_
        refine AllReadyH.cons rfl (fun K hK => ?_) AllReadyH.nil
        refine step_append0_facts (op := ⟨some 44, _, _, _, _, _⟩) (by rfl) (.tmp 42) (.tmp 43) (by rfl) _ B42 (by rfl) HROW.out _ l (by rfl) (HV5.out.fr HF.out) HSZ.out HBS.out ?_
        intro v44 u4 h44 hfr
        have HBK := Lib.hid (hfr.heap HBK.out)
        have HP := Lib.hid (HP.out.fr hfr)
        have HBS := Lib.hid (Nat.le_trans HBS.out hfr.size)
        have HF := Lib.hid (HF.out.trans hfr)
        have H44 := Lib.hid h44
        clear h44 hfr HROW
        clear hH
        refine hK.out _ _ HF.out (fun hH => ?_)
        clear hK K
        simp only [Act.put, List.setIfInBounds_toArray, List.set_cons_zero, List.set_cons_succ]
        refine wpAnyH_ready (rs := [11]) (by kernel_rfl) (by simp) ?_
        refine AllReadyH.cons rfl (fun K hK => ?_) AllReadyH.nil
        refine step_append_facts (op := ⟨some 53, _, _, _, _, _⟩) (by rfl) (.tmp 44) (.tmp 52) (by rfl) _ v44 _ l (by rfl) H44.out v52 [toF n a k1, dgF n a (.slice (some ⟨bk, 0, none⟩) 1 1) til] (by rfl) HP.out HSZ2.out HBS.out ?_
        intro v53 w6 hown hgr
        have HF6 := Lib.hid (Fr.growO HF.out hgr (fun k hk => Nat.le_trans HB.out (H44.out.lt k hk).1))
        have hbk := blk_grown HBK.out H44.out hgr
        have HL6 := Lib.hid (FSl.own (l := lgF l n a til k1 (.slice (some ⟨bk, 0, none⟩) 1 1)) hown (by rw [lg_len]; rfl) (lg_oks (HV5.out.fr HF6.out).oks (HTO.out.fr HF6.out).ok (sl_blk hbk)))
        clear hown hgr hbk hH
        refine hK.out _ _ HF6.out (fun hH => ?_)
        clear hK K
        simp only [Act.put, List.setIfInBounds_toArray, List.set_cons_zero, List.set_cons_succ]
        refine any_assign (oi := ⟨some 12, _, _, _, _, _⟩) 12 (.tmp 53) (v53) rfl rfl rfl (by kernel_rfl) (by kernel_rfl) (by kernel_rfl) (fun _ _ _ h => hQP _ _ _ _ _ h) rfl hH ?_
        simp only [Act.put, List.setIfInBounds_toArray, List.set_cons_zero, List.set_cons_succ]
        refine wpAnyH_done (by kernel_rfl) ?_ _
        exact hK _ _ _ _ _ _ _ _ _ _ _ _ _ _ _ HL6.out HF6.out
    · refine step_lit_fact2 (op := ⟨some 52, _, _, _, _, _⟩) (by rfl) (.tmp 45) (.tmp 51) (by rfl) (toF n a k1) (dgF n a (.slice (some ⟨bk, 0, none⟩) 1 1) til) (by rfl) (by rfl) (HTO.out.fr HF.out).ok (mkF_ok _ _ _ _ _ _ _ _ (sl_blk HBK.out)) ?_
      intro v52 u2 hp hfr
      have HBK := Lib.hid (hfr.heap HBK.out)
      have HF := Lib.hid (HF.out.trans hfr)
      have HP := Lib.hid hp
      clear hp hfr
      clear hH
      refine hK.out _ _ HF.out (fun hH => ?_)
      clear hK K
      simp only [Act.put, List.setIfInBounds_toArray, List.set_cons_zero, List.set_cons_succ]
      refine wpAnyH_ready (rs := [0]) (by kernel_rfl) (by simp) ?_
      refine AllReadyH.cons rfl (fun K hK => ?_) AllReadyH.nil
      have hB := HF.out.size
      refine step_row0F (op := ⟨some 42, _, _, _, _, _⟩) (by rfl) (by rfl) ?_
      intro B42 u3 hrow hfr
      have HBK := Lib.hid (hfr.heap HBK.out)
      have HP := Lib.hid (HP.out.fr hfr)
      have HF := Lib.hid (HF.out.trans hfr)
      have HBS := Lib.hid hfr.size
      have HB := Lib.hid hB
      have HROW := Lib.hid hrow
      clear hrow hfr hB
      clear hH
      refine hK.out _ _ HF.out (fun hH => ?_)
      clear hK K
      simp only [Act.put, List.setIfInBounds_toArray, List.set_cons_zero, List.set_cons_succ]
      refine wpAnyH_ready (rs := [2]) (by kernel_rfl) (by simp) ?_
      refine AllReadyH.cons rfl (fun K hK => ?_) AllReadyH.nil
      refine step_append0_facts (op := ⟨some 44, _, _, _, _, _⟩) (by rfl) (.tmp 42) (.tmp 43) (by rfl) _ B42 (by rfl) HROW.out _ l (by rfl) (HV5.out.fr HF.out) HSZ.out HBS.out ?_
      intro v44 u4 h44 hfr
      have HBK := Lib.hid (hfr.heap HBK.out)
      have HP := Lib.hid (HP.out.fr hfr)
      have HBS := Lib.hid (Nat.le_trans HBS.out hfr.size)
      have HF := Lib.hid (HF.out.trans hfr)
      have H44 := Lib.hid h44
      clear h44 hfr HROW
      clear hH
      refine hK.out _ _ HF.out (fun hH => ?_)
      clear hK K
      simp only [Act.put, List.setIfInBounds_toArray, List.set_cons_zero, List.set_cons_succ]
      refine wpAnyH_ready (rs := [11]) (by kernel_rfl) (by simp) ?_
      refine AllReadyH.cons rfl (fun K hK => ?_) AllReadyH.nil
      refine step_append_facts (op := ⟨some 53, _, _, _, _, _⟩) (by rfl) (.tmp 44) (.tmp 52) (by rfl) _ v44 _ l (by rfl) H44.out v52 [toF n a k1, dgF n a (.slice (some ⟨bk, 0, none⟩) 1 1) til] (by rfl) HP.out HSZ2.out HBS.out ?_
      intro v53 w6 hown hgr
      have HF6 := Lib.hid (Fr.growO HF.out hgr (fun k hk => Nat.le_trans HB.out (H44.out.lt k hk).1))
      have hbk := blk_grown HBK.out H44.out hgr
      have HL6 := Lib.hid (FSl.own (l := lgF l n a til k1 (.slice (some ⟨bk, 0, none⟩) 1 1)) hown (by rw [lg_len]; rfl) (lg_oks (HV5.out.fr HF6.out).oks (HTO.out.fr HF6.out).ok (sl_blk hbk)))
      clear hown hgr hbk hH
      refine hK.out _ _ HF6.out (fun hH => ?_)
      clear hK K
      simp only [Act.put, List.setIfInBounds_toArray, List.set_cons_zero, List.set_cons_succ]
      refine any_assign (oi := ⟨some 12, _, _, _, _, _⟩) 12 (.tmp 53) (v53) rfl rfl rfl (by kernel_rfl) (by kernel_rfl) (by kernel_rfl) (fun _ _ _ h => hQP _ _ _ _ _ h) rfl hH ?_
      simp only [Act.put, List.setIfInBounds_toArray, List.set_cons_zero, List.set_cons_succ]
      refine wpAnyH_done (by kernel_rfl) ?_ _
      exact hK _ _ _ _ _ _ _ _ _ _ _ _ _ _ _ HL6.out HF6.out
set_option maxRecDepth 100000 in
set_option maxHeartbeats 4000000 in
theorem reg18_any {la : Option Addr} {lc B a : Nat} {L : List Ft} {n : Txt} {k1 : Value} {w17 : World} {Q : Exit → Act → World → Prop} {x0 x1 x2 x3 x4 x5 x6 x7 x8 x9 x10 x13 x14 x15 x16 x17 x18 x19 x20 x21 x22 x23 x24 x25 x26 x27 x28 x29 x30 x31 x32 x33 x34 x35 x36 x37 x38 x39 x40 x41 x42 x43 x44 x45 x46 x47 x48 x49 x50 x51 x52 x53 x54 x55 x56 x57 x58 x59 x60 x61 x62 x63 x64 x65 x66 x67 x68 x69 x70 x71 x72 x73 x74 x75 x76 x77 x78 x79 x80 x81 x82 x83 x84 x85 x86 x87 x88 x89 x90 x91 x92 x93 x94 x95 x96 x97 x98 x99 x100 x101 x102 x103 x104 x105 x106 x107 x108 x109 x110 x111 x112 x113 x114 x115 x116 x117 x118 x119 x120 x121 x122 x123 x124 x125 x126 x127 x128 x129 x130 x131 x132 x133 x134 x135 x136 x137 x138 x139 x140 x141 x142 x143 x144 x145 x146 x147 x148 x149 x150 x151 x152 x153 x154 x155 x156 x157 x158 x159 x160 x161 x162 x163 x164 x165 x166 x167 x168 x169 x170 x171 x172 x173 x174 x175 x176 x177 x178 x179 x180 x181 x182 x183 x184 x185 x186 x187 x188 x189 x190 x191 x192 x193 x194 x195 x196 x197 x198 x199 x200 : Value}
    (hl : FSl w17 (.slice la L.length lc) L) (hto : FtAt w17 B 0 (toF n a k1)) (h14 : L.length ≤ 14) (hQP : ∀ (c : _) (a : Act) (d : _) (v : Value) (w : World), Q (.panic c) (a.put d v) w → Q (.panic c) a w)
    (hK : ∀ v18 w18 y129 y130 y131 y132 y133 y134, FSl w18 v18 (L ++ [toF n a k1]) → Fr w17 w18 → Q .normal ⟨#[x0, x1, x2, x3, x4, x5, x6, x7, x8, x9, x10, .pointer (some ⟨B, 0, none⟩), .slice la L.length lc, x13, x14, x15, x16, x17, v18, x19, x20, x21, x22, x23, x24, x25, x26, x27, x28, x29, x30, x31, x32, x33, x34, x35, x36, x37, x38, x39, x40, x41, x42, x43, x44, x45, x46, x47, x48, x49, x50, x51, x52, x53, x54, x55, x56, x57, x58, x59, x60, x61, x62, x63, x64, x65, x66, x67, x68, x69, x70, x71, x72, x73, x74, x75, x76, x77, x78, x79, x80, x81, x82, x83, x84, x85, x86, x87, x88, x89, x90, x91, x92, x93, x94, x95, x96, x97, x98, x99, x100, x101, x102, x103, x104, x105, x106, x107, x108, x109, x110, x111, x112, x113, x114, x115, x116, x117, x118, x119, x120, x121, x122, x123, x124, x125, x126, x127, x128, y129, y130, y131, y132, y133, y134, x135, x136, x137, x138, x139, x140, x141, x142, x143, x144, x145, x146, x147, x148, x149, x150, x151, x152, x153, x154, x155, x156, x157, x158, x159, x160, x161, x162, x163, x164, x165, x166, x167, x168, x169, x170, x171, x172, x173, x174, x175, x176, x177, x178, x179, x180, x181, x182, x183, x184, x185, x186, x187, x188, x189, x190, x191, x192, x193, x194, x195, x196, x197, x198, x199, x200], []⟩ w18) :
    reg18.wp Try.prog Q ⟨#[x0, x1, x2, x3, x4, x5, x6, x7, x8, x9, x10, .pointer (some ⟨B, 0, none⟩), .slice la L.length lc, x13, x14, x15, x16, x17, x18, x19, x20, x21, x22, x23, x24, x25, x26, x27, x28, x29, x30, x31, x32, x33, x34, x35, x36, x37, x38, x39, x40, x41, x42, x43, x44, x45, x46, x47, x48, x49, x50, x51, x52, x53, x54, x55, x56, x57, x58, x59, x60, x61, x62, x63, x64, x65, x66, x67, x68, x69, x70, x71, x72, x73, x74, x75, x76, x77, x78, x79, x80, x81, x82, x83, x84, x85, x86, x87, x88, x89, x90, x91, x92, x93, x94, x95, x96, x97, x98, x99, x100, x101, x102, x103, x104, x105, x106, x107, x108, x109, x110, x111, x112, x113, x114, x115, x116, x117, x118, x119, x120, x121, x122, x123, x124, x125, x126, x127, x128, x129, x130, x131, x132, x133, x134, x135, x136, x137, x138, x139, x140, x141, x142, x143, x144, x145, x146, x147, x148, x149, x150, x151, x152, x153, x154, x155, x156, x157, x158, x159, x160, x161, x162, x163, x164, x165, x166, x167, x168, x169, x170, x171, x172, x173, x174, x175, x176, x177, x178, x179, x180, x181, x182, x183, x184, x185, x186, x187, x188, x189, x190, x191, x192, x193, x194, x195, x196, x197, x198, x199, x200], []⟩ w17 := by
  conv => arg 2; whnf
  have HL17 := Lib.hid hl
  have HTO17 := Lib.hid hto
  have HSZ : Hid (L.length * 408 ≤ 140737488355328) := Lib.hid (by omega)
  have HSZM : Hid ((L.length + 1) * 408 ≤ 140737488355328) := Lib.hid (by omega)
  clear hl hto
  refine wp_region_held_drew (S := fun w' => Fr w17 w') (by kernel_rfl) (Fr.drew w17) (fun hH => ?_)
  have HF := Lib.hid (Fr.drew w17)
  refine any_move (oi := ⟨some 130, _, _, _, _, _⟩) 1 (.tmp 12) (.slice la L.length lc) rfl rfl rfl (by kernel_rfl) (by kernel_rfl) (by kernel_rfl) (fun _ _ _ h => hQP _ _ _ _ _ h) rfl hH ?_
  simp only [Act.put, List.setIfInBounds_toArray, List.set_cons_zero, List.set_cons_succ]
  refine any_load_fact (oi := ⟨some 132, _, _, _, _, _⟩) 3 (.tmp 11) (B) (0) (toF n a k1) rfl rfl rfl (by kernel_rfl) (by kernel_rfl) (by kernel_rfl) (fun _ _ _ h => hQP _ _ _ _ _ h) rfl (fun w' hw => HTO17.out.fr hw) hH ?_
  simp only [Act.put, List.setIfInBounds_toArray, List.set_cons_zero, List.set_cons_succ]
  refine wpAnyH_ready (rs := [0, 4]) (by kernel_rfl) (by simp) ?_
  refine AllReadyH.cons rfl (fun K hK => ?_) (AllReadyH.cons rfl (fun K hK => ?_) AllReadyH.nil)
  · have hB := HF.out.size
    refine step_row0F (op := ⟨some 129, _, _, _, _, _⟩) (by rfl) (by rfl) ?_
    intro B42 u1 hrow hfr
    have HF := Lib.hid (HF.out.trans hfr)
    have HBS := Lib.hid hfr.size
    have HB := Lib.hid hB
    have HROW := Lib.hid hrow
    clear hrow hfr hB
    clear hH
    refine hK.out _ _ HF.out (fun hH => ?_)
    clear hK K
    simp only [Act.put, List.setIfInBounds_toArray, List.set_cons_zero, List.set_cons_succ]
    refine wpAnyH_ready (rs := [2, 4]) (by kernel_rfl) (by simp) ?_
    refine AllReadyH.cons rfl (fun K hK => ?_) (AllReadyH.cons rfl (fun K hK => ?_) AllReadyH.nil)
    · refine step_append0_facts (op := ⟨some 131, _, _, _, _, _⟩) (by rfl) (.tmp 129) (.tmp 130) (by rfl) _ B42 (by rfl) HROW.out _ L (by rfl) (HL17.out.fr HF.out) HSZ.out HBS.out ?_
      intro v44 u2 h44 hfr
      have HBS := Lib.hid (Nat.le_trans HBS.out hfr.size)
      have HF := Lib.hid (HF.out.trans hfr)
      have H44 := Lib.hid h44
      clear h44 hfr HROW
      clear hH
      refine hK.out _ _ HF.out (fun hH => ?_)
      clear hK K
      simp only [Act.put, List.setIfInBounds_toArray, List.set_cons_zero, List.set_cons_succ]
      refine wpAnyH_ready (rs := [4]) (by kernel_rfl) (by simp) ?_
      refine AllReadyH.cons rfl (fun K hK => ?_) AllReadyH.nil
      refine step_lit_fact1 (op := ⟨some 133, _, _, _, _, _⟩) (by rfl) (.tmp 132) (by rfl) (toF n a k1) (by rfl) (HTO17.out.fr HF.out).ok ?_
      intro v52 u3 hp hfr
      have H44 := Lib.hid (own_fr H44.out hfr)
      have HBS := Lib.hid (Nat.le_trans HBS.out hfr.size)
      have HF := Lib.hid (HF.out.trans hfr)
      have HP := Lib.hid hp
      clear hp hfr
      clear hH
      refine hK.out _ _ HF.out (fun hH => ?_)
      clear hK K
      simp only [Act.put, List.setIfInBounds_toArray, List.set_cons_zero, List.set_cons_succ]
      refine wpAnyH_ready (rs := [5]) (by kernel_rfl) (by simp) ?_
      refine AllReadyH.cons rfl (fun K hK => ?_) AllReadyH.nil
      refine step_append_facts (op := ⟨some 134, _, _, _, _, _⟩) (by rfl) (.tmp 131) (.tmp 133) (by rfl) _ v44 _ L (by rfl) H44.out v52 [toF n a k1] (by rfl) HP.out HSZM.out HBS.out ?_
      intro v53 w18 hown hgr
      have HF18 := Lib.hid (Fr.growO HF.out hgr (fun k hk => Nat.le_trans HB.out (H44.out.lt k hk).1))
      have HM18 := Lib.hid (FSl.own (l := L ++ [toF n a k1]) hown (by rw [List.length_append]) (add_oks (HL17.out.fr HF18.out).oks (HTO17.out.fr HF18.out).ok))
      clear hown hgr hH
      refine hK.out _ _ HF18.out (fun hH => ?_)
      clear hK K
      simp only [Act.put, List.setIfInBounds_toArray, List.set_cons_zero, List.set_cons_succ]
      refine any_assign (oi := ⟨some 18, _, _, _, _, _⟩) 6 (.tmp 134) (v53) rfl rfl rfl (by kernel_rfl) (by kernel_rfl) (by kernel_rfl) (fun _ _ _ h => hQP _ _ _ _ _ h) rfl hH ?_
      simp only [Act.put, List.setIfInBounds_toArray, List.set_cons_zero, List.set_cons_succ]
      refine wpAnyH_done (by kernel_rfl) ?_ _
      exact hK _ _ _ _ _ _ _ _ HM18.out HF18.out
    · refine step_lit_fact1 (op := ⟨some 133, _, _, _, _, _⟩) (by rfl) (.tmp 132) (by rfl) (toF n a k1) (by rfl) (HTO17.out.fr HF.out).ok ?_
      intro v52 u2 hp hfr
      have HROW := Lib.hid (own_fr HROW.out hfr)
      have HBS := Lib.hid (Nat.le_trans HBS.out hfr.size)
      have HF := Lib.hid (HF.out.trans hfr)
      have HP := Lib.hid hp
      clear hp hfr
      clear hH
      refine hK.out _ _ HF.out (fun hH => ?_)
      clear hK K
      simp only [Act.put, List.setIfInBounds_toArray, List.set_cons_zero, List.set_cons_succ]
      refine wpAnyH_ready (rs := [2]) (by kernel_rfl) (by simp) ?_
      refine AllReadyH.cons rfl (fun K hK => ?_) AllReadyH.nil
      refine step_append0_facts (op := ⟨some 131, _, _, _, _, _⟩) (by rfl) (.tmp 129) (.tmp 130) (by rfl) _ B42 (by rfl) HROW.out _ L (by rfl) (HL17.out.fr HF.out) HSZ.out HBS.out ?_
      intro v44 u3 h44 hfr
      have HP := Lib.hid (HP.out.fr hfr)
      have HBS := Lib.hid (Nat.le_trans HBS.out hfr.size)
      have HF := Lib.hid (HF.out.trans hfr)
      have H44 := Lib.hid h44
      clear h44 hfr HROW
      clear hH
      refine hK.out _ _ HF.out (fun hH => ?_)
      clear hK K
      simp only [Act.put, List.setIfInBounds_toArray, List.set_cons_zero, List.set_cons_succ]
      refine wpAnyH_ready (rs := [5]) (by kernel_rfl) (by simp) ?_
      refine AllReadyH.cons rfl (fun K hK => ?_) AllReadyH.nil
      refine step_append_facts (op := ⟨some 134, _, _, _, _, _⟩) (by rfl) (.tmp 131) (.tmp 133) (by rfl) _ v44 _ L (by rfl) H44.out v52 [toF n a k1] (by rfl) HP.out HSZM.out HBS.out ?_
      intro v53 w18 hown hgr
      have HF18 := Lib.hid (Fr.growO HF.out hgr (fun k hk => Nat.le_trans HB.out (H44.out.lt k hk).1))
      have HM18 := Lib.hid (FSl.own (l := L ++ [toF n a k1]) hown (by rw [List.length_append]) (add_oks (HL17.out.fr HF18.out).oks (HTO17.out.fr HF18.out).ok))
      clear hown hgr hH
      refine hK.out _ _ HF18.out (fun hH => ?_)
      clear hK K
      simp only [Act.put, List.setIfInBounds_toArray, List.set_cons_zero, List.set_cons_succ]
      refine any_assign (oi := ⟨some 18, _, _, _, _, _⟩) 6 (.tmp 134) (v53) rfl rfl rfl (by kernel_rfl) (by kernel_rfl) (by kernel_rfl) (fun _ _ _ h => hQP _ _ _ _ _ h) rfl hH ?_
      simp only [Act.put, List.setIfInBounds_toArray, List.set_cons_zero, List.set_cons_succ]
      refine wpAnyH_done (by kernel_rfl) ?_ _
      exact hK _ _ _ _ _ _ _ _ HM18.out HF18.out
  · refine step_lit_fact1 (op := ⟨some 133, _, _, _, _, _⟩) (by rfl) (.tmp 132) (by rfl) (toF n a k1) (by rfl) (HTO17.out.fr HF.out).ok ?_
    intro v52 u1 hp hfr
    have HF := Lib.hid (HF.out.trans hfr)
    have HP := Lib.hid hp
    clear hp hfr
    clear hH
    refine hK.out _ _ HF.out (fun hH => ?_)
    clear hK K
    simp only [Act.put, List.setIfInBounds_toArray, List.set_cons_zero, List.set_cons_succ]
    refine wpAnyH_ready (rs := [0]) (by kernel_rfl) (by simp) ?_
    refine AllReadyH.cons rfl (fun K hK => ?_) AllReadyH.nil
    have hB := HF.out.size
    refine step_row0F (op := ⟨some 129, _, _, _, _, _⟩) (by rfl) (by rfl) ?_
    intro B42 u2 hrow hfr
    have HP := Lib.hid (HP.out.fr hfr)
    have HF := Lib.hid (HF.out.trans hfr)
    have HBS := Lib.hid hfr.size
    have HB := Lib.hid hB
    have HROW := Lib.hid hrow
    clear hrow hfr hB
    clear hH
    refine hK.out _ _ HF.out (fun hH => ?_)
    clear hK K
    simp only [Act.put, List.setIfInBounds_toArray, List.set_cons_zero, List.set_cons_succ]
    refine wpAnyH_ready (rs := [2]) (by kernel_rfl) (by simp) ?_
    refine AllReadyH.cons rfl (fun K hK => ?_) AllReadyH.nil
    refine step_append0_facts (op := ⟨some 131, _, _, _, _, _⟩) (by rfl) (.tmp 129) (.tmp 130) (by rfl) _ B42 (by rfl) HROW.out _ L (by rfl) (HL17.out.fr HF.out) HSZ.out HBS.out ?_
    intro v44 u3 h44 hfr
    have HP := Lib.hid (HP.out.fr hfr)
    have HBS := Lib.hid (Nat.le_trans HBS.out hfr.size)
    have HF := Lib.hid (HF.out.trans hfr)
    have H44 := Lib.hid h44
    clear h44 hfr HROW
    clear hH
    refine hK.out _ _ HF.out (fun hH => ?_)
    clear hK K
    simp only [Act.put, List.setIfInBounds_toArray, List.set_cons_zero, List.set_cons_succ]
    refine wpAnyH_ready (rs := [5]) (by kernel_rfl) (by simp) ?_
    refine AllReadyH.cons rfl (fun K hK => ?_) AllReadyH.nil
    refine step_append_facts (op := ⟨some 134, _, _, _, _, _⟩) (by rfl) (.tmp 131) (.tmp 133) (by rfl) _ v44 _ L (by rfl) H44.out v52 [toF n a k1] (by rfl) HP.out HSZM.out HBS.out ?_
    intro v53 w18 hown hgr
    have HF18 := Lib.hid (Fr.growO HF.out hgr (fun k hk => Nat.le_trans HB.out (H44.out.lt k hk).1))
    have HM18 := Lib.hid (FSl.own (l := L ++ [toF n a k1]) hown (by rw [List.length_append]) (add_oks (HL17.out.fr HF18.out).oks (HTO17.out.fr HF18.out).ok))
    clear hown hgr hH
    refine hK.out _ _ HF18.out (fun hH => ?_)
    clear hK K
    simp only [Act.put, List.setIfInBounds_toArray, List.set_cons_zero, List.set_cons_succ]
    refine any_assign (oi := ⟨some 18, _, _, _, _, _⟩) 6 (.tmp 134) (v53) rfl rfl rfl (by kernel_rfl) (by kernel_rfl) (by kernel_rfl) (fun _ _ _ h => hQP _ _ _ _ _ h) rfl hH ?_
    simp only [Act.put, List.setIfInBounds_toArray, List.set_cons_zero, List.set_cons_succ]
    refine wpAnyH_done (by kernel_rfl) ?_ _
    exact hK _ _ _ _ _ _ _ _ HM18.out HF18.out
end Go.Proofs.Ytddeblcoglhdnaa
