/-
  ViewGrows: the walk.
-/
import Derived.Test.YtapdabebiinnnaaVz
namespace Go.Proofs.Ytapdabebiinnnaa
open Go.RowKit Go.MapKept Go.Maps Go.WideMaps

theorem txtV_eq (o : Option Txt) : txtV o = .tuple #[.string (S (o.getD [])), .bool o.isSome] := by cases o <;> rfl
theorem absV_eq (o : Option Int) : absV o = .tuple #[.int .i64 (o.getD 0), .bool o.isSome] := by cases o <;> rfl
theorem notKeyZ {key : Int} (hk : ¬ IsKey key) : key < 0 ∨ 200 ≤ key := by
  rcases Int.lt_or_le key 0 with h | h
  · exact .inl h
  · exact .inr (Int.not_lt.1 fun h' => hk ⟨h, h'⟩)
set_option maxHeartbeats 1000000 in
set_option maxRecDepth 100000 in
theorem grows_nokey (v : Value) (l : List Sy) (key n now : Int) (name : Txt) (w : World) (h : SySl w v l) (ha : SArg l) (hz : name.length ≤ 9223372036854775807) (hk : ¬ IsKey key) :
    Calls Try.prog 3 #[v, .int .i64 key, .int .i64 n, .string (S name), .int .i64 now] w fun e w' => e = .returned (.bool true) ∧ Fr w w' := by
  have H := Lib.hid h
  have HA := Lib.hid ha
  obtain ⟨fb, hfb⟩ : ∃ fb, fb = decide (FewY l) := ⟨_, rfl⟩
  have HF := Lib.hid hfb
  have HK := Lib.hid hk
  have hb := notKeyZ hk
  clear h ha hfb hk
  go_enter Try.func3, Try.ntmps3
  go_upto_region 4 with (first
    | (go_at_call 6; refine (vnew_no _ key _ (.inr HK.out)).mono ?_; rintro e w3 ⟨rfl, hf3⟩)
    | (go_at_call 5; refine (((Has.here w).fr hf1).ring).mono ?_; rintro e w2 ⟨B, rfl, h2⟩)
    | (go_at_call 4; refine (small_any _).mono ?_; rintro e w1 ⟨rfl, hf1⟩))
  go_upto_region 5 with (go_at_call 6; refine (vnew_no _ key _ (.inr HK.out)).mono ?_; rintro e w4 ⟨rfl, hf4⟩)
  have HFX := Lib.hid ((h2.toFr.trans hf3).trans hf4)
  clear h2 hf1 hf3 hf4
  have hb0 : key < 0 ∨ (¬ key < 0 ∧ 200 ≤ key) := by omega
  clear hb
  cases fb with
  | false =>
    rcases hb0 with hb | ⟨hb0, hb⟩
    all_goals
      go_wp2_with (go_at_call 7; refine (few_any _ (H.out.fr HFX.out) HA.out).mono ?_; rw [← HF.out]; rintro e w5 ⟨rfl, rfl⟩)
      go_ret
      exact ⟨rfl, HFX.out⟩
  | true =>
    by_cases hn : name.length ≤ 300
    all_goals
      rcases hb0 with hb | ⟨hb0, hb⟩
      all_goals
        go_wp2_with (go_at_call 7; refine (few_any _ (H.out.fr HFX.out) HA.out).mono ?_; rw [← HF.out]; rintro e w5 ⟨rfl, rfl⟩)
        go_ret
        exact ⟨rfl, HFX.out⟩
set_option maxHeartbeats 1000000 in
set_option maxRecDepth 100000 in
theorem grows_not (v : Value) (l : List Sy) (key n now : Int) (name : Txt) (w : World) (h : SySl w v l) (ha : SArg l) (hz : name.length ≤ 9223372036854775807) (hk : IsKey key) (hf : ¬ (FewY l ∧ name.length ≤ 300)) :
    Calls Try.prog 3 #[v, .int .i64 key, .int .i64 n, .string (S name), .int .i64 now] w fun e w' => e = .returned (.bool true) ∧ Fr w w' := by
  have H := Lib.hid h
  have HA := Lib.hid ha
  obtain ⟨fb, hfb⟩ : ∃ fb, fb = decide (FewY l) := ⟨_, rfl⟩
  have HF := Lib.hid hfb
  have HK := Lib.hid hk
  have hb : fb = false ∨ (fb = true ∧ ¬ name.length ≤ 300) := by
    rw [hfb]
    by_cases h1 : FewY l
    · exact .inr ⟨decide_eq_true h1, fun h2 => hf ⟨h1, h2⟩⟩
    · exact .inl (decide_eq_false h1)
  clear h ha hfb hk hf
  go_enter Try.func3, Try.ntmps3
  go_upto_region 4 with (first
    | (go_at_call 6; refine (vnew_yes h2 _ key HK.out).mono ?_; rintro e w3 ⟨V, rfl, h3⟩)
    | (go_at_call 5; refine (((Has.here w).fr hf1).ring).mono ?_; rintro e w2 ⟨B, rfl, h2⟩)
    | (go_at_call 4; refine (small_any _).mono ?_; rintro e w1 ⟨rfl, hf1⟩))
  go_upto_region 5 with (go_at_call 6; refine (vnew_yes h3 _ key HK.out).mono ?_; rintro e w4 ⟨V2, rfl, h4⟩)
  have HFX := Lib.hid h4.toFr
  clear h2 hf1 h3 h4
  rcases hb with rfl | ⟨rfl, hn⟩
  all_goals
    go_wp2_with (go_at_call 7; refine (few_any _ (H.out.fr HFX.out) HA.out).mono ?_; rw [← HF.out]; rintro e w5 ⟨rfl, rfl⟩)
    go_ret
    exact ⟨rfl, HFX.out⟩
set_option maxHeartbeats 4000000 in
set_option maxRecDepth 100000 in
theorem grows_yes (v : Value) (l : List Sy) (key n now : Int) (name : Txt) (w : World) (h : SySl w v l) (ha : SArg l) (hz : name.length ≤ 300) (hk : IsKey key) (hf : FewY l) (hn : Wm.inInt n) (hnow : Wm.inInt now) :
    Calls Try.prog 3 #[v, .int .i64 key, .int .i64 n, .string (S name), .int .i64 now] w fun e w' => e = .returned (.bool true) ∧ Fr w w' := by
  have H := Lib.hid h
  have HA := Lib.hid ha
  have HFW := Lib.hid hf
  have HF := Lib.hid (show decide (FewY l) = true from decide_eq_true hf)
  have HK := Lib.hid hk
  have HN := Lib.hid hn
  have HW := Lib.hid hnow
  have HZ := Lib.hid (show name.length ≤ maxLen by unfold maxLen; omega)
  have hsl := hf.1
  rw [← sl_len] at hsl
  have HGO := Lib.hid (fun s hs => sl_gok hf (s := s) hs)
  have HQN := Lib.hid (qs_nd l)
  have HQL := Lib.hid (show (qs l).length ≤ 1000000 from by have := qs_len l; have := hf.1; omega)
  have HLV := Lib.hid (fun n h => lv_ok key (qs_nd l) (sl l) n h)
  clear h ha hf hk hn hnow
  go_enter Try.func3, Try.ntmps3
  go_upto_region 4 with (first
    | (go_at_call 6; refine (vnew_yes h2 _ key HK.out).mono ?_; rintro e w3 ⟨V, rfl, h3⟩)
    | (go_at_call 5; refine (((Has.here w).fr hf1).ring).mono ?_; rintro e w2 ⟨R, rfl, h2⟩)
    | (go_at_call 4; refine (small_any _).mono ?_; rintro e w1 ⟨rfl, hf1⟩))
  go_upto_region 5 with (go_at_call 6; refine (vnew_yes h3 _ key HK.out).mono ?_; rintro e w4 ⟨V2, rfl, h4⟩; have H4 := Lib.hid (h4.pull3); clear h4 h3 h2)
  go_upto_region 8 with (first
    | (go_at_call 8; refine (signed_any _ l H4.out (H.out) HA.out HFW.out).mono ?_; rintro e w6 ⟨a6, c6, rfl, h6⟩; have H6 := Lib.hid (h6.map fun _ h => sep_under (sp4 h) fun _ h => sep_under (sep_turn h) fun _ h => sep_turn h); clear h6)
    | (go_at_call 7; refine (few_any _ (H.out.fr H4.out.toFr) HA.out).mono ?_; rw [HF.out]; rintro e w5 ⟨rfl, rfl⟩))
  clear HA HF H H4 HFW hf1
  generalize qs l = q at *
  generalize sl l = ss at *
  go_wp2_with fail
  go_loopw [16] (fun i wr => ∃ k : Nat, k ≤ ss.length ∧ i = .int .i64 k ∧ Hid (Has w wr ((ViewT V R key (lv q key ss k) (vd (lv q key ss k))).sep ((RingT R q).sep ((ViewT V2 R key [] vd0).sep ((RowT 41 3 (.slice a6 ss.length c6) ss.length (sgC ss)).sep .emp)))))) (fun i _ => ss.length - (intOf i).toNat)
  case atStart => exact ⟨0, Nat.zero_le _, by go_num, H6⟩
  case round =>
    obtain ⟨k, hk, rfl, HR⟩ := hrel
    clear H6
    by_cases hlt : k < ss.length
    ·
      -- slow
      obtain ⟨g, cp, hv, _, hcell⟩ := sg_at HR.out.right.right.right.row rfl (by omega)
      obtain ⟨rfl, rfl⟩ : a6 = some ⟨g, 0, none⟩ ∧ c6 = cp := by simpa using hv
      have hLN := (HLV.out k hk)
      have HLO := Lib.hid hLN.1
      have HLL := Lib.hid (show (lv q key ss k).length ≤ 100000 from by have := hLN.2; omega)
      have HSU := Lib.hid (lv_succ q key hlt)
      have HG := Lib.hid (HGO.out _ (List.getElem_mem hlt))
      have hck := hcell k hlt
      obtain ⟨s, hs⟩ : ∃ s, s = ss[k] := ⟨_, rfl⟩
      obtain ⟨L, hL⟩ : ∃ L, L = lv q key ss k := ⟨_, rfl⟩
      rw [← hs] at hck HG HSU
      rw [← hL] at HR HLO HLL HSU
      clear hs hL hLN hcell hv
      have HLO' := Lib.hid (HLO.out.acl HQN.out s).1
      have HSB := Lib.hid (acl_sub HLO.out HQN.out s)
      have HLL' := Lib.hid (show (acl q key L s).length ≤ 100001 from by have := (HLO.out.acl HQN.out s).2; have := HLL.out; omega)
      have HD := Lib.hid (show (vd L).hd.length ≤ 1000000 from by have := (HLO.out.hdok HQN.out HLL.out).len; omega)
      have hll2 : (acl q key L s).length ≤ 100000 := by
        have h1 := (HLV.out (k + 1) (by omega)).2
        rw [HSU.out] at h1; omega
      have HD' := Lib.hid (show (vd (acl q key L s)).hd.length ≤ 1000000 from by have := (HLO'.out.hdok HQN.out hll2).len; omega)
      have HAC := Lib.hid (fun w' (U : Thing) (h : Has w w' ((ViewT V R key L (vd L)).sep ((RingT R q).sep U))) => vacc h HLO.out HQN.out HQL.out HLL.out s HG.out)
      have HT1 := Lib.hid (Int.not_lt.2 (szT_le HLO.out HLO'.out HQN.out HSB.out))
      have HE1 := Lib.hid (fun t => en_le HLO.out HLO'.out HQN.out HSB.out (i := n) (t := t))
      have HB1 := Lib.hid (fun m => ab_le HLO.out HLO'.out HQN.out HSB.out (name := name) (m := m))
      have HK1 := Lib.hid (kn_le HLO.out HLO'.out HQN.out HSB.out (n := n))
      have HSZ := Lib.hid (fun w' (U : Thing) (h : Has w w' ((ViewT V R key L (vd L)).sep U)) => vsize h HD.out)
      have HSZ' := Lib.hid (fun w' (U : Thing) (h : Has w w' ((ViewT V R key (acl q key L s) (vd (acl q key L s))).sep U)) => vsize h HD'.out)
      have HTX := Lib.hid (fun w' (U : Thing) (h : Has w w' ((ViewT V R key L (vd L)).sep U)) => vtext h n HN.out)
      have HTX' := Lib.hid (fun w' (U : Thing) (h : Has w w' ((ViewT V R key (acl q key L s) (vd (acl q key L s))).sep U)) => vtext h n HN.out)
      have HAB := Lib.hid (fun w' (U : Thing) (h : Has w w' ((ViewT V R key L (vd L)).sep U)) => vabsent h name HZ.out)
      have HAB' := Lib.hid (fun w' (U : Thing) (h : Has w w' ((ViewT V R key (acl q key L s) (vd (acl q key L s))).sep U)) => vabsent h name HZ.out)
      have HKN := Lib.hid (fun w' (U : Thing) (h : Has w w' ((ViewT V R key L (vd L)).sep U)) => vknown h n HN.out)
      have HKN' := Lib.hid (fun w' (U : Thing) (h : Has w w' ((ViewT V R key (acl q key L s) (vd (acl q key L s))).sep U)) => vknown h n HN.out)
      simp only [txtV_eq] at HTX HTX'
      simp only [absV_eq] at HAB HAB'
      obtain ⟨L', hL'⟩ : ∃ L', L' = acl q key L s := ⟨_, rfl⟩
      rw [← hL'] at HSU HAC HT1 HE1 HB1 HK1 HSZ' HTX' HAB' HKN'
      clear hL' hll2 HLO' HSB HLL' HD HD'
      generalize szT (vd L) = t0 at *
      generalize szT (vd L') = t1 at *
      generalize szN (vd L) = n0 at *
      generalize szN (vd L') = n1 at *
      generalize (vd L).en n = e0 at *
      generalize (vd L').en n = e1 at *
      generalize (vd L).ab name = b0 at *
      generalize (vd L').ab name = b1 at *
      generalize knB (vd L) n = k0 at *
      generalize knB (vd L') n = k1 at *
      have ht1 := HT1.out
      obtain ⟨sk, st, sm⟩ := s
      unfold sgV at HAC
      simp only at HAC
      go_upto_region 12 with (go_at_call 9; refine (HSZ.out _ _ HR.out).mono ?_; rintro e w7 ⟨rfl, hf7⟩; have H7 := Lib.hid (HR.out.fr hf7); have HF7 := Lib.hid hf7; clear hf7)
      go_upto_region 13 with (go_at_call 10; refine (HTX.out _ _ H7.out).mono ?_; rintro e w8 ⟨rfl, rfl⟩)
      go_upto_region 14 with (go_at_call 11; refine (HAB.out _ _ H7.out).mono ?_; rintro e w9 ⟨rfl, rfl⟩)
      go_upto_region 15 with (go_at_call 12; refine (HKN.out _ _ H7.out).mono ?_; rintro e w10 ⟨rfl, rfl⟩)
      have s0 := HF7.out.cell hck.c0
      have s1 := HF7.out.cell hck.c1
      have s2 := HF7.out.cell hck.c2
      simp only at s0 s1 s2
      clear hck
      go_upto_region 16 with (go_at_call 13; refine (HAC.out _ _ H7.out).mono ?_; rintro e w11 ⟨rfl, h11⟩; have H11 := Lib.hid h11; clear h11)
      clear s0 s1 s2 HF7 HAC HSZ HTX HAB HKN H7 HR
      go_upto_region 17 with (go_at_call 9; refine (HSZ'.out _ _ H11.out).mono ?_; rintro e w12 ⟨rfl, hf12⟩; have H12 := Lib.hid (H11.out.fr hf12); clear hf12)
      go_upto_region 18 with (go_at_call 10; refine (HTX'.out _ _ H12.out).mono ?_; rintro e w13 ⟨rfl, rfl⟩)
      go_upto_region 19 with (go_at_call 11; refine (HAB'.out _ _ H12.out).mono ?_; rintro e w14 ⟨rfl, rfl⟩)
      go_cut [180] (fun b wx => b = .bool false ∧ Hid (Has w wx ((ViewT V R key L' (vd L')).sep ((RingT R q).sep ((ViewT V2 R key [] vd0).sep ((RowT 41 3 (.slice (some ⟨g, 0, none⟩) ss.length c6) ss.length (sgC ss)).sep .emp))))))
      case first =>
        cases e0 with
        | none =>
          cases b0 with
          | none =>
            cases k0 with
            | false =>
              go_wp2_with fail
              go_meet
              exact ⟨by simp [ht1], H12⟩
            | true =>
              have hk1 := HK1.out rfl
              rw [hk1] at HKN'
              go_wp2_with (go_at_call 12; refine (HKN'.out _ _ H12.out).mono ?_; rintro e w15 ⟨rfl, rfl⟩)
              go_meet
              exact ⟨by simp [ht1], H12⟩
          | some m =>
            obtain ⟨m', rfl, hm⟩ := HB1.out m rfl
            have hm' : ¬ m' < m := Int.not_lt.2 hm
            cases k0 with
            | false =>
              go_wp2_with fail
              go_meet
              exact ⟨by simp [ht1], H12⟩
            | true =>
              have hk1 := HK1.out rfl
              rw [hk1] at HKN'
              go_wp2_with (go_at_call 12; refine (HKN'.out _ _ H12.out).mono ?_; rintro e w15 ⟨rfl, rfl⟩)
              go_meet
              exact ⟨by simp [ht1], H12⟩
        | some t =>
          obtain rfl := HE1.out t rfl
          cases b0 with
          | none =>
            cases k0 with
            | false =>
              go_wp2_with fail
              go_meet
              exact ⟨by simp [ht1], H12⟩
            | true =>
              have hk1 := HK1.out rfl
              rw [hk1] at HKN'
              go_wp2_with (go_at_call 12; refine (HKN'.out _ _ H12.out).mono ?_; rintro e w15 ⟨rfl, rfl⟩)
              go_meet
              exact ⟨by simp [ht1], H12⟩
          | some m =>
            obtain ⟨m', rfl, hm⟩ := HB1.out m rfl
            have hm' : ¬ m' < m := Int.not_lt.2 hm
            cases k0 with
            | false =>
              go_wp2_with fail
              go_meet
              exact ⟨by simp [ht1], H12⟩
            | true =>
              have hk1 := HK1.out rfl
              rw [hk1] at HKN'
              go_wp2_with (go_at_call 12; refine (HKN'.out _ _ H12.out).mono ?_; rintro e w15 ⟨rfl, rfl⟩)
              go_meet
              exact ⟨by simp [ht1], H12⟩
      case rest =>
        obtain ⟨rfl, H15⟩ := hcut
        rw [← HSU.out] at H15
        go_wp2_with fail
        go_roundw
        case rel => exact ⟨k + 1, by omega, by go_num, H15⟩
        case measure => simp [intOf]; omega
      -- /slow
    · obtain rfl : k = ss.length := by omega
      have hLN := HLV.out ss.length (Nat.le_refl _)
      have HLO := Lib.hid hLN.1
      have hll : (lv q key ss ss.length).length ≤ 20 := by have := hLN.2; omega
      obtain ⟨L, hL⟩ : ∃ L, L = lv q key ss ss.length := ⟨_, rfl⟩
      rw [← hL] at HR HLO hll
      clear hL hLN HLV
      go_upto_region 22 with (go_at_call 14; refine (vclaims HR.out (by omega)).mono ?_; rintro e w20 ⟨cv, rfl, hcv, hf⟩)
      have H20 := Lib.hid ((HR.out.new (RowT.made hcv hf)).map fun _ h => sep_under (sp4 h) fun _ h => (sep_under (sp3 h) fun _ h => sep_turn h))
      obtain ⟨a2, c2, rfl⟩ := row_form hcv
      clear hf hcv HR HGO
      go_wp2_with fail
      go_loopw [31] (fun i wr => ∃ i' : Nat, i' ≤ L.length ∧ i = .int .i64 i' ∧ Hid (Has w wr ((ViewT V2 R key (L.reverse.take i') (vd (L.reverse.take i'))).sep ((RingT R q).sep ((ViewT V R key L (vd L)).sep ((RowT 41 3 (.slice a2 L.length c2) L.length (sgC L)).sep ((RowT 41 3 (.slice a6 ss.length c6) ss.length (sgC ss)).sep .emp))))))) (fun i _ => L.length - (intOf i).toNat)
      case atStart => exact ⟨0, Nat.zero_le _, by go_num, H20⟩
      case round =>
        obtain ⟨i, hi, rfl, HI⟩ := hrel
        clear H20
        by_cases hlt2 : i < L.length
        · obtain ⟨g2, cp, hv, _, hcell⟩ := sg_at HI.out.right.right.right.row rfl (by omega)
          obtain ⟨rfl, rfl⟩ : a2 = some ⟨g2, 0, none⟩ ∧ c2 = cp := by simpa using hv
          obtain ⟨hr1, hr2⟩ := rev_step HLO.out HQN.out i hlt2
          have hjl : L.length - 1 - i < L.length := by omega
          have hck := hcell (L.length - 1 - i) hjl
          have hmem : L[L.length - 1 - i] ∈ L := List.getElem_mem hjl
          have hwo := HLO.out.fit HQL.out _ hmem
          have hky := HLO.out.key _ hmem
          have hij : (L.length : Int) - 1 - (i : Int) = ((L.length - 1 - i : Nat) : Int) := by omega
          obtain ⟨s, hs⟩ : ∃ s, s = L[L.length - 1 - i] := ⟨_, rfl⟩
          rw [← hs] at hr1 hr2 hck hwo hky
          have HGO := Lib.hid (show GOk s from ⟨by have h1 := HK.out.1; have h2 := HK.out.2; rw [hky]; exact ⟨by omega, by omega⟩, by have := hwo.2; omega, ⟨by have := hwo.1.1; omega, hwo.1.2⟩⟩)
          have HAC := Lib.hid (vacc HI.out (HLO.out.rev i) HQN.out HQL.out (by rw [List.length_take]; simp; omega) s HGO.out)
          rw [hr1, hr2] at HAC
          obtain ⟨j, hj⟩ : ∃ j, j = L.length - 1 - i := ⟨_, rfl⟩
          rw [← hj] at hck hij
          have hjl2 : j < L.length := by omega
          clear hs hr1 hr2 hmem hwo hky hcell hv hjl hj HGO
          obtain ⟨sk, st, sm⟩ := s
          unfold sgV at HAC
          have t0 := hck.c0
          have t1 := hck.c1
          have t2 := hck.c2
          simp only at t0 t1 t2 HAC
          go_wp2_with (go_at_call 13; refine HAC.out.mono ?_; rintro e w21 ⟨rfl, h21⟩; have H21 := Lib.hid h21; clear h21)
          go_roundw
          case rel => exact ⟨i + 1, by omega, by go_num, H21⟩
          case measure => simp [intOf]; omega
        · obtain rfl : i = L.length := by omega
          have hrl : L.reverse.take L.length = L.reverse := List.take_of_length_le (by simp)
          rw [hrl] at HI
          have HLR := Lib.hid (show LOk q key L.reverse from by have := HLO.out.rev L.length; rwa [hrl] at this)
          have HSS := Lib.hid (show ∀ s, s ∈ L.reverse ↔ s ∈ L from fun s => List.mem_reverse)
          have HDL := Lib.hid (show (vd L).hd.length ≤ 1000000 from by have := (HLO.out.hdok HQN.out (by omega)).len; omega)
          have HDR := Lib.hid (show (vd L.reverse).hd.length ≤ 1000000 from by have := (HLR.out.hdok HQN.out (by simp; omega)).len; omega)
          have HSZ := Lib.hid (fun w' (U : Thing) (h : Has w w' ((ViewT V R key L (vd L)).sep U)) => vsize h HDL.out)
          have HSZ' := Lib.hid (fun w' (U : Thing) (h : Has w w' ((ViewT V2 R key L.reverse (vd L.reverse)).sep U)) => vsize h HDR.out)
          have HTX := Lib.hid (fun w' (U : Thing) (h : Has w w' ((ViewT V R key L (vd L)).sep U)) => vtext h n HN.out)
          have HTX' := Lib.hid (fun w' (U : Thing) (h : Has w w' ((ViewT V2 R key L.reverse (vd L.reverse)).sep U)) => vtext h n HN.out)
          have HAB := Lib.hid (fun w' (U : Thing) (h : Has w w' ((ViewT V R key L (vd L)).sep U)) => vabsent h name HZ.out)
          have HAB' := Lib.hid (fun w' (U : Thing) (h : Has w w' ((ViewT V2 R key L.reverse (vd L.reverse)).sep U)) => vabsent h name HZ.out)
          have HKN := Lib.hid (fun w' (U : Thing) (h : Has w w' ((ViewT V R key L (vd L)).sep U)) => vknown h n HN.out)
          have HKN' := Lib.hid (fun w' (U : Thing) (h : Has w w' ((ViewT V2 R key L.reverse (vd L.reverse)).sep U)) => vknown h n HN.out)
          have HAG := Lib.hid (fun w' (U : Thing) (h : Has w w' ((ViewT V R key L (vd L)).sep U)) => vage h HDL.out now HW.out)
          have HAG' := Lib.hid (fun w' (U : Thing) (h : Has w w' ((ViewT V2 R key L.reverse (vd L.reverse)).sep U)) => vage h HDR.out now HW.out)
          simp only [szT_eq HLR.out HLO.out HQN.out HSS.out, szN_eq HLR.out HLO.out HQN.out HSS.out] at HSZ'
          simp only [en_eq HLR.out HLO.out HQN.out HSS.out n, txtV_eq] at HTX'
          simp only [txtV_eq] at HTX
          simp only [ab_eq HLR.out HLO.out HQN.out HSS.out name, absV_eq] at HAB'
          simp only [absV_eq] at HAB
          simp only [kn_eq HLR.out HLO.out HQN.out HSS.out n] at HKN'
          simp only [ag_eq HLR.out HLO.out HQN.out HSS.out now] at HAG'
          clear HLR HSS HDL HDR HLO
          obtain ⟨D', hD'⟩ : ∃ D', D' = vd L.reverse := ⟨_, rfl⟩
          rw [← hD'] at HI HSZ' HTX' HAB' HKN' HAG'
          clear hD' hrl
          generalize szT (vd L) = t0 at *
          generalize szN (vd L) = n0 at *
          generalize ((vd L).en n).getD [] = x0 at *
          generalize ((vd L).en n).isSome = x1 at *
          generalize ((vd L).ab name).getD 0 = y0 at *
          generalize ((vd L).ab name).isSome = y1 at *
          generalize knB (vd L) n = k0 at *
          generalize agO (vd L) now = g0 at *
          go_upto_region 28 with (go_at_call 9; refine (HSZ.out _ _ HI.out.pull3).mono ?_; rintro e w21 ⟨rfl, hf⟩; have H21 := Lib.hid (HI.out.fr hf); clear hf)
          clear HI
          go_upto_region 29 with (go_at_call 9; refine (HSZ'.out _ _ H21.out).mono ?_; rintro e w22 ⟨rfl, hf⟩; have H22 := Lib.hid (H21.out.fr hf); clear hf)
          clear H21
          go_upto_region 30 with (go_at_call 10; refine (HTX.out _ _ H22.out.pull3).mono ?_; rintro e w23 ⟨rfl, rfl⟩)
          go_upto_region 31 with (go_at_call 10; refine (HTX'.out _ _ H22.out).mono ?_; rintro e w24 ⟨rfl, rfl⟩)
          go_upto_region 32 with (go_at_call 11; refine (HAB.out _ _ H22.out.pull3).mono ?_; rintro e w25 ⟨rfl, rfl⟩)
          go_upto_region 33 with (go_at_call 11; refine (HAB'.out _ _ H22.out).mono ?_; rintro e w26 ⟨rfl, rfl⟩)
          all_goals
            go_wp2_with (first
              | (go_at_call 15; first
                  | (refine (HAG'.out _ _ H27.out).mono ?_; rintro e w28 ⟨rfl, hf⟩; have H28 := Lib.hid (H27.out.fr hf); clear hf)
                  | (refine (HAG.out _ _ HK2.out.pull3).mono ?_; rintro e w27 ⟨rfl, hf⟩; have H27 := Lib.hid (HK2.out.fr hf); clear hf))
              | (go_at_call 12; first
                  | (refine (HKN'.out _ _ HK1.out).mono ?_; rintro e w30 ⟨rfl, rfl⟩; have HK2 := Lib.hid HK1.out)
                  | (refine (HKN.out _ _ H22.out.pull3).mono ?_; rintro e w29 ⟨rfl, rfl⟩; have HK1 := Lib.hid H22.out)))
            go_ret
            exact ⟨rfl, H28.out.toFr⟩
theorem grows_any (v : Value) (l : List Sy) (key n now : Int) (name : Txt) (w : World) (h : SySl w v l) (ha : SArg l) (hz : name.length ≤ 9223372036854775807) (hn : Wm.inInt n) (hnow : Wm.inInt now) :
    Calls Try.prog 3 #[v, .int .i64 key, .int .i64 n, .string (S name), .int .i64 now] w fun e w' => e = .returned (.bool true) ∧ Fr w w' := by
  by_cases hk : IsKey key
  · by_cases hf : FewY l ∧ name.length ≤ 300
    · exact grows_yes v l key n now name w h ha hf.2 hk hf.1 hn hnow
    · exact grows_not v l key n now name w h ha hz hk hf
  · exact grows_nokey v l key n now name w h ha hz hk
end Go.Proofs.Ytapdabebiinnnaa
