/-
  Book: New, Len, Text, Append.
-/
import Derived.Test.YthppefkamklakaaDoorBa
import Derived.Test.YthppefkamklakaaDoorCx
namespace Go.Proofs.YthppefkamklakaaDoor
open Go.RowKit Go.MapKept Go.Maps Go.WideMaps

theorem infoStr : (Tryd.prog.info? 9).map (fun i => (i.zero, i.size, i.bytes)) = some (some (.string (S [])), 1, 16) := by kernel_rfl

/-! ### New -/
set_option maxRecDepth 100000 in
theorem noHead_any (w : World) : Calls Tryd.prog 18 #[] w fun e w' => e = .returned (.agg #[.int .i64 0, .int .i64 (-1)]) ∧ Fr w w' := by
  go_enter Tryd.func18, Tryd.ntmps18
  go_wp2
  have hS := heap_alloc_new w (.cells #[.int .i64 0, .int .i64 (-1)] 61)
  have d0 := cellOf hS (i := 0) rfl
  have d1 := cellOf hS (i := 1) rfl
  refine bodyPost_ret (v := .agg #[.int .i64 0, .int .i64 (-1)]) (by simp [results, Tryd.results18, go_sem, d0, d1]) rfl ⟨rfl, ?_⟩
  exact Fr.alloc _ _
theorem notKey {k : Int} (h : ¬ IsKey k) : k < 0 ∨ (¬ k < 0 ∧ 200 ≤ k) := by unfold IsKey at h; omega
set_option maxRecDepth 100000 in
theorem bnew_no (a : Option Addr) (k : Int) (w : World) (hk : ¬ IsKey k) :
    Calls Tryd.prog 7 #[.pointer a, .int .i64 k] w fun e w' => e = .returned (.tuple #[.pointer none, .int .i64 22]) ∧ Fr w w' := by
  rcases notKey hk with h | ⟨h0, h⟩
  · go_enter Tryd.func7, Tryd.ntmps7
    go_wp2_with fail
    go_ret2
    exact ⟨rfl, Fr.refl _⟩
  · go_enter Tryd.func7, Tryd.ntmps7
    go_wp2_with fail
    go_ret2
    exact ⟨rfl, Fr.refl _⟩
/-- A new book beside its ring. -/
theorem bnew_has {W w w1 : World} {R : Nat} {q : List Sd} {U : Thing} (h : Has W w ((RingT R q).sep U)) (k : Int) (hf : Fr (w.alloc (.map #[] 0)) w1) :
    Has W (w1.alloc (.cells #[.pointer (some ⟨R, 0, none⟩), .int .i64 k, .slice none 0 0, .map (some w.heap.size), .int .i64 0, .int .i64 (-1)] 65)) ((BookT w1.heap.size R ⟨k, [], 0, -1⟩ q).sep U) := by
  have h1 := (h.mnew.fr hf).nilRow 9 1
  have h2 := h1.box 65 #[.pointer (some ⟨R, 0, none⟩), .int .i64 k, .slice none 0 0, .map (some w.heap.size), .int .i64 0, .int .i64 (-1)]
  exact BP.close (M := w.heap.size) (ev := .slice none 0 0) (m := 0) h2.pull4
set_option maxHeartbeats 1000000 in
set_option maxRecDepth 100000 in
theorem bnew_yes {W w : World} {R : Nat} {q : List Sd} {U : Thing} (h : Has W w ((RingT R q).sep U)) (k : Int) (hk : IsKey k) :
    Calls Tryd.prog 7 #[.pointer (some ⟨R, 0, none⟩), .int .i64 k] w fun e w' => ∃ B, e = .returned (.tuple #[.pointer (some ⟨B, 0, none⟩), .int .i64 0]) ∧ Has W w' ((BookT B R ⟨k, [], 0, -1⟩ q).sep U) := by
  have hmm := @run_makeMap Tryd.prog
  have h0 := hk.1
  have h1 := hk.2
  have H := Lib.hid h
  clear h hk
  go_enter Tryd.func7, Tryd.ntmps7
  go_wp2_with (go_at_call 18; refine (noHead_any _).mono ?_; rintro e w1 ⟨rfl, hf⟩)
  go_ret2
  exact ⟨_, rfl, bnew_has H.out k hf⟩

/-! ### Len, Text -/
/-- What Text returns. -/
def txtO (s : BS) (i : Int) : Option Txt := if 0 ≤ i then s.es[i.toNat]? else none
def txtV : Option Txt → Value
  | none => .tuple #[.string ⟨#[]⟩, .bool false]
  | some t => .tuple #[.string (S t), .bool true]
theorem txtO_no {s : BS} {i : Int} (h : txtO s i = none) : i < 0 ∨ (¬ i < 0 ∧ (s.es.length : Int) ≤ i) := by
  unfold txtO at h
  split at h
  · rw [List.getElem?_eq_none_iff] at h; omega
  · omega
theorem txtO_yes {s : BS} {i : Int} {t : Txt} (h : txtO s i = some t) : 0 ≤ i ∧ ∃ hi : i.toNat < s.es.length, s.es[i.toNat] = t := by
  unfold txtO at h
  split at h
  · obtain ⟨h1, h2⟩ := List.getElem?_eq_some_iff.1 h
    exact ⟨by omega, h1, h2⟩
  · cases h
/-- A row of strings, element by element. -/
theorem str_row {w : World} {base n : Nat} {v : Value} {l : List Txt} (h : w.ownsRow base 9 1 v n (strs l)) (hl : n = l.length) (h0 : 0 < l.length) :
    ∃ g cap, v = .slice (some ⟨g, 0, none⟩) n cap ∧ ∀ (i : Nat) (hi : i < l.length), w.cell? ⟨g, i, none⟩ = some (.string (S l[i])) := by
  rcases h.2 with ⟨_, h1⟩ | ⟨g, cap, cur, h1, h2, h3, h4, h5, h6, h7⟩
  · omega
  · refine ⟨g, cap, h1, fun i hi => ?_⟩
    rw [Lib.cell_of_heap h3]
    have hs := strs_get l i hi
    rw [← h7, List.getElem?_take] at hs
    split at hs
    · simpa using hs
    · cases hs
set_option maxRecDepth 100000 in
theorem btext {W w : World} {B R : Nat} {s : BS} {q : List Sd} {U : Thing} (h : Has W w ((BookT B R s q).sep U)) (i : Int) (hn : s.es.length ≤ 1000000) :
    Calls Tryd.prog 39 #[.pointer (some ⟨B, 0, none⟩), .int .i64 i] w fun e w' => e = .returned (txtV (txtO s i)) ∧ Fr w w' := by
  obtain ⟨M, ev, m, hp⟩ := h.bopen
  have c2 : w.cell? ⟨B, 2, none⟩ = some ev := cellOf hp.heap rfl
  have hrow := hp.row
  obtain ⟨a, c, rfl⟩ := row_form hrow
  cases ho : txtO s i with
  | none =>
    unfold txtV
    rcases txtO_no ho with h1 | ⟨h0, h1⟩
    · clear hp h ho hrow
      go_enter Tryd.func39, Tryd.ntmps39
      go_wp2_with fail
      go_ret2
      exact ⟨rfl, Fr.refl _⟩
    · clear hp h ho hrow
      go_enter Tryd.func39, Tryd.ntmps39
      go_wp2_with fail
      go_ret2
      exact ⟨rfl, Fr.refl _⟩
  | some t =>
    obtain ⟨h0, hi, ht⟩ := txtO_yes ho
    obtain ⟨j, rfl⟩ : ∃ j : Nat, i = j := ⟨i.toNat, by omega⟩
    simp only [Int.toNat_natCast] at hi ht
    obtain ⟨g, cap, he, hc⟩ := str_row hrow rfl (by omega)
    cases he
    have c9 := hc j hi
    rw [ht] at c9
    unfold txtV
    clear hp h ho hrow ht hc
    go_enter Tryd.func39, Tryd.ntmps39
    go_wp2_with fail
    go_ret2
    exact ⟨rfl, Fr.refl _⟩

/-! ### Append -/
/-- Whether a text is appended; what Append returns; the book then. -/
noncomputable def apB (t : Txt) : Bool := (key t).isSome && decide (t.length ≤ 20000)
noncomputable def apS (s : BS) (t : Txt) : BS := if apB t then { s with es := s.es ++ [t] } else s
noncomputable def apN (s : BS) (t : Txt) : Int := if apB t then s.es.length else 0
noncomputable def apE (t : Txt) : Int := if (key t).isSome then (if t.length ≤ 20000 then 0 else 3) else 2
theorem ap_none {s : BS} {t : Txt} (h : key t = none) : apS s t = s ∧ apN s t = 0 ∧ apE t = 2 := by
  unfold apS apN apE apB; rw [h]; exact ⟨rfl, rfl, rfl⟩
theorem ap_long {s : BS} {t k : Txt} (h : key t = some k) (hl : ¬ t.length ≤ 20000) : apS s t = s ∧ apN s t = 0 ∧ apE t = 3 := by
  unfold apS apN apE apB; rw [h, decide_eq_false hl]; simp [hl]
theorem ap_yes {s : BS} {t k : Txt} (h : key t = some k) (hl : t.length ≤ 20000) : apS s t = { s with es := s.es ++ [t] } ∧ apN s t = s.es.length ∧ apE t = 0 := by
  unfold apS apN apE apB; rw [h, decide_eq_true hl]; simp [hl]
theorem keyT_of {t k : Txt} (h : key t = some k) : keyT t = k := by unfold keyT; rw [h]; rfl
theorem keyCall_none {t : Txt} (h : key t = none) (w : World) (ht : t.length ≤ 9223372036854775807) :
    Calls Tryd.prog 37 #[.string (S t)] w fun e w' => e = .returned (.tuple #[.string ⟨#[]⟩, .bool false]) ∧ Fr w w' :=
  (key_any t w ht).mono fun _ _ ⟨he, hf⟩ => ⟨by rw [he, h]; rfl, hf⟩
theorem keyCall_some {t k : Txt} (h : key t = some k) (w : World) (ht : t.length ≤ 9223372036854775807) :
    Calls Tryd.prog 37 #[.string (S t)] w fun e w' => e = .returned (.tuple #[.string (S k), .bool true]) ∧ Fr w w' :=
  (key_any t w ht).mono fun _ _ ⟨he, hf⟩ => ⟨by rw [he, h]; rfl, hf⟩
theorem pmK_none {l : List Txt} {s : Txt} (h : s ∉ l) : pmK l s = none := by unfold pmK; rw [pm_none.2 h]; rfl
theorem pmK_some {l : List Txt} {s : Txt} {k : Nat} (h : pm 0 l s = some k) : pmK l s = some (.int .i64 k) := by unfold pmK; rw [h]; rfl
theorem pmK_push {l : List Txt} {s : Txt} (h : s ∉ l) (t : Txt) : pmK (l ++ [s]) t = if t = s then some (.int .i64 (l.length : Nat)) else pmK l t := by
  unfold pmK; rw [pm_push h]; split <;> rfl
theorem pmK_old {l : List Txt} {s : Txt} (h : s ∈ l) : pmK (l ++ [s]) = pmK l := by
  funext t
  unfold pmK
  rw [pm_append]
  split
  · rfl
  · next hn =>
    rw [pm_cons, if_neg (fun e : t = s => hn (e ▸ h)), pm_none.2 hn]; rfl
theorem lookK_none {w : World} {M n : Nat} {l : List Txt} {s : Txt} (h : Ms.MapIs w M (pmK l) n) (hs : s.length ≤ maxLen) (hp : s ∉ l) :
    (Instr.lookup 59 (.map (some M)) (.string (S s)) true).run Tryd.prog w = .ok (.tuple #[.int .i64 0, .bool false]) w := by
  rw [h.look s hs, pmK_none hp]; rfl
theorem lookK_some {w : World} {M n : Nat} {l : List Txt} {s : Txt} {k : Nat} (h : Ms.MapIs w M (pmK l) n) (hs : s.length ≤ maxLen) (hp : pm 0 l s = some k) :
    (Instr.lookup 59 (.map (some M)) (.string (S s)) true).run Tryd.prog w = .ok (.tuple #[.int .i64 k, .bool true]) w := by
  rw [h.look s hs, pmK_some hp]; rfl
/-- The parts of a book, its row first. -/
theorem BP.rowFirst {W w : World} {B R M : Nat} {ev : Value} {m : Nat} {s : BS} {q : List Sd} {U : Thing} (h : BP W w B R M ev m s q U) :
    Has W w ((RowT 9 1 ev s.es.length (strs s.es)).sep ((RingT R q).sep ((BoxT 65 B #[.pointer (some ⟨R, 0, none⟩), .int .i64 s.k, ev, .map (some M), .int .i64 s.n, .int .i64 s.t]).sep ((MapT M (pmK (ks s.es)) m).sep U)))) := Has.pull3 h
/-- What an append leaves: the parts of the new book. -/
theorem BP.appended {W w : World} {B R M g cap : Nat} {m : Nat} {s : BS} {t : Txt} {q : List Sd} {U : Thing} {ev : Value} {f : Txt → Option Value}
    (h : Has W w ((RowT 9 1 (.slice (some ⟨g, 0, none⟩) (s.es.length + 1) cap) (s.es.length + 1) (strs s.es ++ [.string (S t)])).sep ((RingT R q).sep ((BoxT 65 B #[.pointer (some ⟨R, 0, none⟩), .int .i64 s.k, ev, .map (some M), .int .i64 s.n, .int .i64 s.t]).sep ((MapT M f m).sep U)))))
    (hf : f = pmK (ks (s.es ++ [t]))) :
    Has W (w.setCell ⟨B, 2, none⟩ (.slice (some ⟨g, 0, none⟩) (s.es.length + 1) cap)) ((BookT B R { s with es := s.es ++ [t] } q).sep U) := by
  have h1 := h.pull3.set 2 (.slice (some ⟨g, 0, none⟩) (s.es.length + 1) cap)
  subst hf
  rw [← strs_app] at h1
  have h3 := h1.pull3
  refine BP.close (M := M) (ev := .slice (some ⟨g, 0, none⟩) (s.es.length + 1) cap) (m := m) (s := { s with es := s.es ++ [t] }) ?_
  show Has _ _ _
  rw [show ({ s with es := s.es ++ [t] } : BS).es.length = s.es.length + 1 from by simp]
  exact h3
set_option maxHeartbeats 1000000 in
set_option maxRecDepth 100000 in
theorem bappend_old {W w : World} {B R : Nat} {s : BS} {q : List Sd} {U : Thing} (h : Has W w ((BookT B R s q).sep U)) (t k : Txt) (ht : t.length ≤ 9223372036854775807) (hk : key t = some k) (hl : t.length ≤ 20000) (hn : s.es.length ≤ 1000) (n : Nat) (hp : pm 0 (ks s.es) k = some n) :
    Calls Tryd.prog 19 #[.pointer (some ⟨B, 0, none⟩), .string (S t)] w fun e w' => e = .returned (.tuple #[.int .i64 s.es.length, .int .i64 0]) ∧ Has W w' ((BookT B R { s with es := s.es ++ [t] } q).sep U) := by
  obtain ⟨i0, hi, hz0, hz1, hz2⟩ := info_parts infoStr
  have HIN := Lib.hid hi
  obtain ⟨M, ev, m, hb⟩ := h.bopen
  have hkl := Nat.le_trans (key_len hk) ht
  have HP := Lib.hid hb
  have HL := Lib.hid (fun w' (hf : Fr w w') => lookK_some ((hb.fr hf).map) (show k.length ≤ maxLen by unfold maxLen; exact hkl) hp)
  have HM := Lib.hid (show pmK (ks s.es) = pmK (ks (s.es ++ [t])) by rw [ks_app, keyT_of hk, pmK_old (mem_of_pm hp)])
  have c2 : w.cell? ⟨B, 2, none⟩ = some ev := cellOf hb.heap rfl
  have c3 : w.cell? ⟨B, 3, none⟩ = some (.map (some M)) := cellOf hb.heap rfl
  obtain ⟨a, c, rfl⟩ := row_form hb.row
  have HK := Lib.hid hk
  clear h hb hi hp hkl hk
  go_enter Tryd.func19, Tryd.ntmps19
  go_upto_region 6 with (first
    | (go_at_call 37; refine (keyCall_some HK.out _ ht).mono ?_; rintro e w1 ⟨rfl, hf⟩; have c2' := hf.cell c2; have c3' := hf.cell c3; have hlk := HL.out w1 hf; have HP1 := Lib.hid (HP.out.fr hf); clear c2 c3 HP))
  go_upto_region 7 with fail
  have hx : ¬ ((200000 : Int) ≤ (s.es.length : Int)) := by omega
  have HN := Lib.hid hn
  clear hn
  go_wp2_with (first
    | (at_builtin; refine wpList_app rfl _ _ 63 rfl 9 i0 (.string (S [])) 1 16 Tryd.underlying63 HIN.out hz0 hz1 hz2 rfl (by decide) rfl HP1.out.rowFirst 1 1 [.string (S t)] rfl rfl (by simp [Value.oneCell']) (by decide) (by have := HN.out; omega) (by decide) ?_
       intro g cap w2 h2
       have hB2 := h2.pull3.boxed
       have d2 : w2.cell? ⟨B, 2, none⟩ = some (.slice a s.es.length c) := cellOf hB2 rfl
       have e2 := frozenOf hB2 2
       have H2 := Lib.hid h2
       clear h2 hB2))
  go_ret2
  exact ⟨rfl, BP.appended H2.out HM.out⟩
set_option maxHeartbeats 1000000 in
set_option maxRecDepth 100000 in
theorem bappend_new {W w : World} {B R : Nat} {s : BS} {q : List Sd} {U : Thing} (h : Has W w ((BookT B R s q).sep U)) (t k : Txt) (ht : t.length ≤ 9223372036854775807) (hk : key t = some k) (hl : t.length ≤ 20000) (hn : s.es.length ≤ 1000) (hp : k ∉ ks s.es) :
    Calls Tryd.prog 19 #[.pointer (some ⟨B, 0, none⟩), .string (S t)] w fun e w' => e = .returned (.tuple #[.int .i64 s.es.length, .int .i64 0]) ∧ Has W w' ((BookT B R { s with es := s.es ++ [t] } q).sep U) := by
  obtain ⟨i0, hi, hz0, hz1, hz2⟩ := info_parts infoStr
  have HIN := Lib.hid hi
  obtain ⟨M, ev, m, hb⟩ := h.bopen
  have hkl : k.length ≤ maxLen := Nat.le_trans (key_len hk) ht
  have HP := Lib.hid hb
  have HL := Lib.hid (fun w' (hf : Fr w w') => lookK_none ((hb.fr hf).map) hkl hp)
  have HQ : Hid (∀ w', Fr w w' → ∃ w'', (Instr.mapUpdate 59 (.map (some M)) (.string (S k)) (.int .i64 s.es.length)).run Tryd.prog w' = .ok () w'' ∧
      Has W w'' ((RowT 9 1 ev s.es.length (strs s.es)).sep ((RingT R q).sep ((BoxT 65 B #[.pointer (some ⟨R, 0, none⟩), .int .i64 s.k, ev, .map (some M), .int .i64 s.n, .int .i64 s.t]).sep ((MapT M (pmK (ks (s.es ++ [t]))) (m + 1)).sep U))))) := Lib.hid fun w' hf => by
    obtain ⟨w'', h1, h2⟩ := (Has.pull4 (hb.fr hf)).mput (m' := pmK (ks (s.es ++ [t]))) (n' := m + 1) k hkl (.int .i64 s.es.length) (fun u => by rw [ks_app, keyT_of hk, pmK_push hp u, ks_len]) (by rw [if_pos (pmK_none hp)])
    exact ⟨w'', h1, h2.push4.pull3⟩
  have c2 : w.cell? ⟨B, 2, none⟩ = some ev := cellOf hb.heap rfl
  have c3 : w.cell? ⟨B, 3, none⟩ = some (.map (some M)) := cellOf hb.heap rfl
  obtain ⟨a, c, rfl⟩ := row_form hb.row
  have HK := Lib.hid hk
  clear h hb hi hp hkl hk
  go_enter Tryd.func19, Tryd.ntmps19
  go_upto_region 6 with (first
    | (go_at_call 37; refine (keyCall_some HK.out _ ht).mono ?_; rintro e w1 ⟨rfl, hf⟩; have c2' := hf.cell c2; have c3' := hf.cell c3; have hlk := HL.out w1 hf
       obtain ⟨w3, hup, h3⟩ := HQ.out w1 hf
       have H3 := Lib.hid h3
       have hB3 := h3.pull3.boxed
       have c2'' : w3.cell? ⟨B, 2, none⟩ = some (.slice a s.es.length c) := cellOf hB3 rfl
       clear c2 c3 HP h3 hB3 HQ HL))
  go_upto_region 7 with fail
  have hx : ¬ ((200000 : Int) ≤ (s.es.length : Int)) := by omega
  have HN := Lib.hid hn
  clear hn
  go_wp2_with (first
    | (at_builtin; refine wpList_app rfl _ _ 63 rfl 9 i0 (.string (S [])) 1 16 Tryd.underlying63 HIN.out hz0 hz1 hz2 rfl (by decide) rfl H3.out 1 1 [.string (S t)] rfl rfl (by simp [Value.oneCell']) (by decide) (by have := HN.out; omega) (by decide) ?_
       intro g cap w2 h2
       have hB2 := h2.pull3.boxed
       have d2 : w2.cell? ⟨B, 2, none⟩ = some (.slice a s.es.length c) := cellOf hB2 rfl
       have e2 := frozenOf hB2 2
       have H2 := Lib.hid h2
       clear h2 hB2))
  go_ret2
  exact ⟨rfl, BP.appended H2.out rfl⟩
set_option maxRecDepth 100000 in
theorem bappend_none {W w : World} {B R : Nat} {s : BS} {q : List Sd} {U : Thing} (_h : Has W w ((BookT B R s q).sep U)) (t : Txt) (ht : t.length ≤ 9223372036854775807) (hk : key t = none) :
    Calls Tryd.prog 19 #[.pointer (some ⟨B, 0, none⟩), .string (S t)] w fun e w' => e = .returned (.tuple #[.int .i64 0, .int .i64 2]) ∧ Fr w w' := by
  have HK := Lib.hid hk
  clear hk
  go_enter Tryd.func19, Tryd.ntmps19
  go_wp2_with (go_at_call 37; refine (keyCall_none HK.out _ ht).mono ?_; rintro e w1 ⟨rfl, hf⟩)
  go_ret2
  exact ⟨rfl, hf⟩
set_option maxRecDepth 100000 in
theorem bappend_long {W w : World} {B R : Nat} {s : BS} {q : List Sd} {U : Thing} (_h : Has W w ((BookT B R s q).sep U)) (t k : Txt) (ht : t.length ≤ 9223372036854775807) (hk : key t = some k) (hl : ¬ t.length ≤ 20000) :
    Calls Tryd.prog 19 #[.pointer (some ⟨B, 0, none⟩), .string (S t)] w fun e w' => e = .returned (.tuple #[.int .i64 0, .int .i64 3]) ∧ Fr w w' := by
  have HK := Lib.hid hk
  clear hk
  go_enter Tryd.func19, Tryd.ntmps19
  go_wp2_with (go_at_call 37; refine (keyCall_some HK.out _ ht).mono ?_; rintro e w1 ⟨rfl, hf⟩)
  go_ret2
  exact ⟨rfl, hf⟩
theorem bappend {W w : World} {B R : Nat} {s : BS} {q : List Sd} {U : Thing} (h : Has W w ((BookT B R s q).sep U)) (t : Txt) (ht : t.length ≤ 9223372036854775807) (hn : s.es.length ≤ 1000) :
    Calls Tryd.prog 19 #[.pointer (some ⟨B, 0, none⟩), .string (S t)] w fun e w' => e = .returned (.tuple #[.int .i64 (apN s t), .int .i64 (apE t)]) ∧ Has W w' ((BookT B R (apS s t) q).sep U) := by
  cases hk : key t with
  | none =>
    obtain ⟨h1, h2, h3⟩ := ap_none (s := s) hk
    rw [h1, h2, h3]
    exact (bappend_none h t ht hk).mono fun _ _ ⟨he, hf⟩ => ⟨he, h.fr hf⟩
  | some k =>
    by_cases hl : t.length ≤ 20000
    · obtain ⟨h1, h2, h3⟩ := ap_yes (s := s) hk hl
      rw [h1, h2, h3]
      by_cases hp : k ∈ ks s.es
      · obtain ⟨n, hn'⟩ := pm_mem (i := 0) hp
        exact bappend_old h t k ht hk hl hn n hn'
      · exact bappend_new h t k ht hk hl hn hp
    · obtain ⟨h1, h2, h3⟩ := ap_long (s := s) hk hl
      rw [h1, h2, h3]
      exact (bappend_long h t k ht hk hl).mono fun _ _ ⟨he, hf⟩ => ⟨he, h.fr hf⟩
end Go.Proofs.YthppefkamklakaaDoor
