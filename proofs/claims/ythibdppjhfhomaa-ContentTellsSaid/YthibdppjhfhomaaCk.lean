/-
  Contracts of the reference: Print, bytes, Right, Text, Add.
-/
import Derived.Test.YthibdppjhfhomaaCi
import Derived.Laws.AppendOwnNone
namespace Go.Proofs.Ythibdppjhfhomaa
open Go.RowKit Go.MapKept Go.Maps Go.WideMaps

theorem pm_first {l : List Txt} {s : Txt} {k : Nat} (hk : k < l.length) (hn : ∀ (j : Nat) (_h : j < k) (h' : j < l.length), l[j] ≠ s) (he : l[k] = s) : pm 0 l s = some k := by
  obtain ⟨m, hm⟩ := pm_mem (i := 0) (he ▸ List.getElem_mem hk : s ∈ l)
  obtain ⟨_, h2, h3⟩ := pm_some hm
  have hml : m < l.length := by omega
  rw [Nat.sub_zero, List.getElem?_eq_getElem hml] at h3
  have h3' := Option.some.inj h3
  rw [hm]
  congr 1
  rcases Nat.lt_trichotomy m k with h | h | h
  · exact absurd h3' (hn m h hml)
  · exact h
  · exfalso
    have hle : ∀ (l : List Txt) (i k m : Nat) (hk : k < l.length), l[k] = s → pm i l s = some m → m ≤ i + k := by
      intro l
      induction l with
      | nil => intro i k m hk; simp at hk
      | cons x l ih =>
        intro i k m hk hx hp
        rw [pm_cons] at hp
        split at hp
        · simp only [Option.some.injEq] at hp; omega
        · cases k with
          | zero => simp at hx; rename_i hne; exact absurd hx.symm hne
          | succ k =>
            have := ih (i + 1) k m (by simpa using hk) (by simpa using hx) hp
            omega
    have := hle l 0 k m hk he hm
    omega
theorem prt_first {l : List Txt} {s : Txt} {k : Nat} (hk : k < l.length) (hn : ∀ (j : Nat) (_h : j < k) (h' : j < l.length), l[j] ≠ s) (he : l[k] = s) : prt l s = (k : Int) := by
  unfold prt
  rw [pm_first hk hn he]
theorem prt_none {l : List Txt} {s : Txt} (h : s ∉ l) : prt l s = -1 := by
  unfold prt
  rw [pm_none.2 h]
theorem prt_some {l : List Txt} {s : Txt} {k : Nat} (h : pm 0 l s = some k) : prt l s = (k : Int) := by
  unfold prt
  rw [h]

set_option maxHeartbeats 400000 in
theorem rprint_at (b o c : Nat) (l : List Txt) (s : Txt) (w : World) (hc : At w b o l) (hn : l.length ≤ 4611686018427387904) :
    Calls Try.prog 23 #[.slice (some ⟨b, o, none⟩) l.length c, .string (S s)] w fun e w' => e = .returned (.int .i64 (prt l s)) ∧ Fr w w' := by
  have HC := Lib.hid hc
  clear hc
  go_enter Try.func23, Try.ntmps23
  go_wp2_with fail
  go_loopw [5] (fun i wr => ∃ k : Nat, k ≤ l.length ∧ i = .int .i64 k ∧ wr = w ∧ Hid (∀ (j : Nat) (h : j < k) (h' : j < l.length), l[j] ≠ s)) (fun i _ => l.length - (intOf i).toNat)
  case atStart => exact ⟨0, Nat.zero_le _, rfl, rfl, Lib.hid (fun j h => by omega)⟩
  case round =>
    obtain ⟨k, hk, rfl, rfl, hA⟩ := hrel
    by_cases hlt : k < l.length
    · have c1 := HC.out k hlt
      by_cases he : l[k] = s
      · have HP := Lib.hid (prt_first hlt hA.out he)
        rw [he] at c1
        clear hA he
        go_wp2_with fail
        go_ret
        exact ⟨by rw [HP.out]; rfl, Fr.refl _⟩
      · have HA := Lib.hid (show ∀ (j : Nat) (h : j < k + 1) (h' : j < l.length), l[j] ≠ s from fun j h h' => by
          rcases Nat.lt_or_ge j k with hj | hj
          · exact hA.out j hj h'
          · obtain rfl : j = k := by omega
            exact he)
        have hb : (l[k] == s) = false := by simpa using he
        clear hA he
        generalize l[k] = x at *
        go_wp2_with fail
        go_roundw
        case rel => exact ⟨k + 1, by omega, by go_num, trivial, HA⟩
        case measure => simp [intOf]; omega
    · have HP := Lib.hid (prt_none (l := l) (s := s) (fun h => by
        obtain ⟨j, hj, he⟩ := List.getElem_of_mem h
        exact hA.out j (by omega) hj he))
      clear hA
      go_wp2_with fail
      go_ret
      exact ⟨by rw [HP.out]; rfl, Fr.refl _⟩
theorem rprint_nil (a : Option Addr) (c : Nat) (s : Txt) (w : World) :
    Calls Try.prog 23 #[.slice a 0 c, .string (S s)] w fun e w' => e = .returned (.int .i64 (prt [] s)) ∧ Fr w w' := by
  go_enter Try.func23, Try.ntmps23
  go_wp2_with fail
  go_loopw [5] (fun i wr => i = .int .i64 0 ∧ wr = w) (fun _ _ => 0)
  case atStart => exact ⟨rfl, rfl⟩
  case round =>
    obtain ⟨rfl, rfl⟩ := hrel
    go_wp2_with fail
    go_ret
    exact ⟨rfl, Fr.refl _⟩
theorem rprint_any {v : Value} {l : List Txt} (s : Txt) (w : World) (h : Sl w v l) (hn : l.length ≤ 4611686018427387904) :
    Calls Try.prog 23 #[v, .string (S s)] w fun e w' => e = .returned (.int .i64 (prt l s)) ∧ Fr w w' := by
  rcases h.cases with ⟨rfl, a, c, rfl⟩ | ⟨b, o, c, rfl, hc⟩
  · exact rprint_nil a c s w
  · exact rprint_at b o c l s w hc hn

theorem rbytes_at (b o c : Nat) (l : List Txt) (w : World) (hc : At w b o l) (hn : l.length ≤ 4611686018427387904) (ht : tot l ≤ 4611686018427387904) :
    Calls Try.prog 27 #[.slice (some ⟨b, o, none⟩) l.length c] w fun e w' => e = .returned (.int .i64 (tot l)) ∧ w' = w := by
  have H1 := Lib.hid ht
  have H2 := Lib.hid hc
  clear ht hc
  go_enter Try.func27, Try.ntmps27
  go_wp2_with fail
  go_loopw [3, 4] (fun n i wr => ∃ k : Nat, k ≤ l.length ∧ i = .int .i64 k ∧ n = .int .i64 (tot (l.take k)) ∧ wr = w) (fun _ i _ => l.length - (intOf i).toNat)
  case atStart => exact ⟨0, Nat.zero_le _, rfl, rfl, rfl⟩
  case round =>
    obtain ⟨k, hk, rfl, rfl, rfl⟩ := hrel
    by_cases hlt : k < l.length
    · have c1 := H2.out k hlt
      have H3 := Lib.hid (tot_take_succ l k hlt)
      have H4 := tot_take l (k + 1)
      rw [tot_take_succ l k hlt] at H4
      have h5 := H1.out
      have h4 : tot (l.take k) + l[k].length ≤ 4611686018427387904 := by omega
      clear H4 h5
      generalize l[k] = x at *
      generalize tot (l.take k) = y at *
      go_wp2_with fail
      go_roundw
      case rel => exact ⟨k + 1, by omega, by go_num, by rw [H3.out]; go_num, trivial⟩
      case measure => simp [intOf]; omega
    · have hkl : k = l.length := by omega
      have hT : tot (l.take k) = tot l := by rw [hkl, List.take_length]
      rw [hT]
      clear hT
      go_wp2_with fail
      go_ret
      exact ⟨rfl, rfl⟩
theorem rbytes_nil (a : Option Addr) (c : Nat) (w : World) :
    Calls Try.prog 27 #[.slice a 0 c] w fun e w' => e = .returned (.int .i64 (tot [] : Nat)) ∧ w' = w := by
  go_enter Try.func27, Try.ntmps27
  go_wp2_with fail
  go_loopw [3, 4] (fun n i wr => i = .int .i64 0 ∧ n = .int .i64 0 ∧ wr = w) (fun _ _ _ => 0)
  case atStart => exact ⟨rfl, rfl, rfl⟩
  case round =>
    obtain ⟨rfl, rfl, rfl⟩ := hrel
    go_wp2_with fail
    go_ret
    exact ⟨rfl, rfl⟩
theorem rbytes_big {v : Value} {l : List Txt} (w : World) (h : Sl w v l) (h1 : l.length ≤ 4611686018427387904) (h2 : tot l ≤ 4611686018427387904) :
    Calls Try.prog 27 #[v] w fun e w' => e = .returned (.int .i64 (tot l)) ∧ w' = w := by
  rcases h.cases with ⟨rfl, a, c, rfl⟩ | ⟨b, o, c, rfl, hc⟩
  · exact rbytes_nil a c w
  · exact rbytes_at b o c l w hc h1 h2
theorem rbytes_any {v : Value} {l : List Txt} (w : World) (h : Sl w v l) (hl : Ok l) :
    Calls Try.prog 27 #[v] w fun e w' => e = .returned (.int .i64 (tot l)) ∧ w' = w :=
  rbytes_big w h (by have := hl.1; omega) (by have := hl.2; omega)

theorem nodup_prt {l : List Txt} (h : ∀ (j : Nat) (h : j < l.length), prt l l[j] = (j : Int)) : l.Nodup := by
  rw [List.Nodup, List.pairwise_iff_getElem]
  intro i j hi hj hij e
  have h1 := h i hi
  have h2 := h j hj
  rw [e, h2] at h1
  omega
theorem rright_at (b o c : Nat) (l : List Txt) (w : World) (hc : Sl w (.slice (some ⟨b, o, none⟩) l.length c) l) (hl : Ok l) :
    Calls Try.prog 21 #[.slice (some ⟨b, o, none⟩) l.length c] w fun e w' => e = .returned (.bool (decide (Rt l))) ∧ Fr w w' := by
  have HC := Lib.hid hc
  have HL := Lib.hid hl
  have hl1 := hl.1
  clear hc hl
  go_enter Try.func21, Try.ntmps21
  go_wp2_with fail
  go_loopw [3] (fun i wr => ∃ k : Nat, k ≤ l.length ∧ i = .int .i64 k ∧ Hid (Fr w wr) ∧ Hid (∀ (j : Nat) (h : j < k) (h' : j < l.length), prt l l[j] = (j : Int))) (fun i _ => l.length - (intOf i).toNat)
  case atStart => exact ⟨0, Nat.zero_le _, rfl, Lib.hid (Fr.refl _), Lib.hid (fun j h => by omega)⟩
  case round =>
    obtain ⟨k, hk, rfl, hF, hA⟩ := hrel
    by_cases hlt : k < l.length
    · rcases (HC.out.fr hF.out) with ⟨hb0, _⟩ | ⟨B, o', c', hv, hc, _⟩
      · rw [hb0] at hlt; simp at hlt
      obtain ⟨⟨rfl, rfl⟩, rfl⟩ : (b = B ∧ o = o') ∧ c = c' := by simpa using hv
      have c1 := hc k hlt
      clear hc hv
      by_cases he : prt l l[k] = (k : Int)
      · have HE := Lib.hid he
        have HA := Lib.hid (show ∀ (j : Nat) (h : j < k + 1) (h' : j < l.length), prt l l[j] = (j : Int) from fun j h h' => by
          rcases Nat.lt_or_ge j k with hj | hj
          · exact hA.out j hj h'
          · obtain rfl : j = k := by omega
            exact he)
        clear hA he
        generalize l[k] = x at *
        go_wp2_with (go_at_call 23; refine (rprint_any x _ (HC.out.fr hF.out) (by omega)).mono ?_; rw [HE.out]; rintro e w3 ⟨rfl, hf3⟩)
        go_roundw
        case rel => exact ⟨k + 1, by omega, by go_num, Lib.hid (hF.out.trans hf3), HA⟩
        case measure => simp [intOf]; omega
      · have HD := Lib.hid (show decide (Rt l) = false from decide_eq_false (fun h => he (prt_at h.1 hlt)))
        generalize hx : l[k] = x at *
        clear hA hx
        obtain ⟨p, hp⟩ : ∃ p, p = prt l x := ⟨_, rfl⟩
        have HP := Lib.hid hp
        rw [← hp] at he
        clear hp
        have hb : (p == (k : Int)) = false := by simpa using he
        go_wp2_with (go_at_call 23; refine (rprint_any x _ (HC.out.fr hF.out) (by omega)).mono ?_; rw [← HP.out]; rintro e w3 ⟨rfl, hf3⟩)
        go_ret
        exact ⟨by rw [HD.out]; rfl, hF.out.trans hf3⟩
    · obtain rfl : k = l.length := by omega
      have HD := Lib.hid (show decide (Rt l) = decide ((tot l : Int) ≤ 1048576) by
        rw [Bool.eq_iff_iff]
        simp only [decide_eq_true_eq]
        constructor
        · intro h; have := h.2; omega
        · intro h; exact ⟨nodup_prt (fun j hj => hA.out j hj hj), by omega⟩)
      clear hA
      go_wp2_with (go_at_call 27; refine (rbytes_any _ (HC.out.fr hF.out) HL.out).mono ?_; rintro e w3 ⟨rfl, rfl⟩)
      go_ret
      exact ⟨by rw [HD.out]; rfl, hF.out⟩
theorem rright_nil (a : Option Addr) (c : Nat) (w : World) :
    Calls Try.prog 21 #[.slice a 0 c] w fun e w' => e = .returned (.bool (decide (Rt []))) ∧ Fr w w' := by
  have hd : decide (Rt []) = true := by decide
  rw [hd]
  go_enter Try.func21, Try.ntmps21
  go_wp2_with fail
  go_loopw [3] (fun i wr => i = .int .i64 0 ∧ wr = w) (fun _ _ => 0)
  case atStart => exact ⟨rfl, rfl⟩
  case round =>
    obtain ⟨rfl, rfl⟩ := hrel
    go_wp2_with (go_at_call 27; refine (rbytes_nil _ _ _).mono ?_; rintro e w3 ⟨rfl, rfl⟩)
    go_ret
    exact ⟨rfl, Fr.refl _⟩
theorem rright_any {v : Value} {l : List Txt} (w : World) (h : Sl w v l) (hl : Ok l) :
    Calls Try.prog 21 #[v] w fun e w' => e = .returned (.bool (decide (Rt l))) ∧ Fr w w' := by
  rcases h with ⟨rfl, a, c, rfl⟩ | ⟨b, o, c, rfl, hc, hle⟩
  · exact rright_nil a c w
  · exact rright_at b o c l w (.inr ⟨b, o, c, rfl, hc, hle⟩) hl

theorem rtext_any (v : Value) (l : List Txt) (n : Int) (w : World) (h : Sl w v l) (hl : Ok l) (h0 : -9223372036854775808 ≤ n) (h1 : n ≤ 9223372036854775807) :
    Calls Try.prog 19 #[v, .int .i64 n] w fun e w' => e = .returned (.tuple #[.string (S ((txt l n).getD [])), .bool (txt l n).isSome]) ∧ Fr w w' := by
  have hb := hl.1
  by_cases hn : n < 0
  · unfold txt
    rw [if_pos hn]
    go_enter Try.func19, Try.ntmps19
    go_wp2_with fail
    go_ret2
    exact ⟨rfl, Fr.refl _⟩
  · obtain ⟨k, rfl⟩ : ∃ k : Nat, n = (k : Int) := ⟨n.toNat, by omega⟩
    have ht : txt l (k : Int) = l[k]? := by unfold txt; rw [if_neg hn, Int.toNat_natCast]
    rw [ht]
    clear ht
    by_cases hk : k < l.length
    · rcases h.cases with ⟨rfl, _⟩ | ⟨b, o, c, rfl, hc⟩
      · simp at hk
      · have c1 := hc k hk
        rw [List.getElem?_eq_getElem hk]
        clear hc h
        generalize l[k] = x at *
        go_enter Try.func19, Try.ntmps19
        go_wp2_with fail
        go_ret2
        exact ⟨rfl, Fr.refl _⟩
    · obtain ⟨a, c, rfl⟩ := h.len
      rw [List.getElem?_eq_none (by omega)]
      clear h
      go_enter Try.func19, Try.ntmps19
      go_wp2_with fail
      go_ret2
      exact ⟨rfl, Fr.refl _⟩
theorem rtext_none {v : Value} {l : List Txt} {n : Int} (w : World) (h : Sl w v l) (hl : Ok l) (h0 : -9223372036854775808 ≤ n) (h1 : n ≤ 9223372036854775807) (ht : txt l n = none) :
    Calls Try.prog 19 #[v, .int .i64 n] w fun e w' => e = .returned (.tuple #[.string (S []), .bool false]) ∧ Fr w w' :=
  (rtext_any v l n w h hl h0 h1).mono fun _ _ ⟨he, hf⟩ => ⟨by rw [he, ht]; rfl, hf⟩
theorem rtext_some {v : Value} {l : List Txt} {n : Int} {s : Txt} (w : World) (h : Sl w v l) (hl : Ok l) (h0 : -9223372036854775808 ≤ n) (h1 : n ≤ 9223372036854775807) (ht : txt l n = some s) :
    Calls Try.prog 19 #[v, .int .i64 n] w fun e w' => e = .returned (.tuple #[.string (S s), .bool true]) ∧ Fr w w' :=
  (rtext_any v l n w h hl h0 h1).mono fun _ _ ⟨he, hf⟩ => ⟨by rw [he, ht]; rfl, hf⟩
theorem rright_bad {v : Value} {l : List Txt} (w : World) (h : Sl w v l) (hl : Ok l) (hr : ¬ Rt l) : Calls Try.prog 21 #[v] w fun e w' => e = .returned (.bool false) ∧ Fr w w' :=
  (rright_any w h hl).mono fun _ _ ⟨he, hf⟩ => ⟨by rw [he, decide_eq_false hr], hf⟩
theorem rright_good {v : Value} {l : List Txt} (w : World) (h : Sl w v l) (hl : Ok l) (hr : Rt l) : Calls Try.prog 21 #[v] w fun e w' => e = .returned (.bool true) ∧ Fr w w' :=
  (rright_any w h hl).mono fun _ _ ⟨he, hf⟩ => ⟨by rw [he, decide_eq_true hr], hf⟩
end Go.Proofs.Ythibdppjhfhomaa
