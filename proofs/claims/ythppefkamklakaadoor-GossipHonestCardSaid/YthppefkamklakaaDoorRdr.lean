/-
  Contracts: the methods of wire.Reader.
-/
import Derived.Test.YthppefkamklakaaDoorRef
import Derived.Deep.DeepCutAuto
namespace Go.Proofs.YthppefkamklakaaDoor
open Go.RowKit

theorem S_get_rfl (l : List UInt8) (k : Nat) (h : k < (S l).size) : (S l)[k] = l[k]'(S_size l ▸ h) := rfl
@[go_sem] theorem S_get (l : List UInt8) (k : Nat) (h : k < (S l).size) : (S l)[k] = l[k]'(S_size l ▸ h) := (S_get_rfl l k h).trans (Eq.refl _)

/-- The first byte, as a number. -/
def fst (r : List UInt8) : Int := (r.headD 0).toNat
theorem fst_run {r : List UInt8} (h : 0 < r.length) (w : World) : (Instr.index 9 (.string (S r)) (.int .i64 0)).run Tryd.prog w = .ok (.int .u8 (fst r)) w := by
  rw [run_index_string _ _ _ _ _ Tryd.underlying9, dif_pos ⟨Int.le_refl _, by show (0 : Int) < r.length; omega⟩]
  cases r with
  | nil => simp at h
  | cons d r => rfl
theorem fst_ne {r : List UInt8} (h : 0 < r.length) (h0 : r[0] ≠ 48) : (fst r == 48) = false := by
  cases r with
  | nil => simp at h
  | cons d r => exact beq_eq_false_iff_ne.2 (fun e => h0 (UInt8.toNat_inj.1 (Int.ofNat.inj e)))
theorem fst_eq {r : List UInt8} (h : 0 < r.length) (h0 : r[0] = 48) : (fst r == 48) = true := by
  cases r with
  | nil => simp at h
  | cons d r => simp only [List.getElem_cons_zero] at h0; subst h0; rfl

/-- A reader lies in block b: what is left, and whether it has failed. -/
def Rd (T b : Nat) (r : List UInt8) (f : Bool) (w : World) : Prop := w.heap[b]? = some (.cells #[.string (S r), .bool f] T (0, 0))
/-- Only block b, and new memory. -/
def FrB (b : Nat) (w w' : World) : Prop := w.grownBy w' (some b)

theorem Rd.c0 {T b : Nat} {r : List UInt8} {f : Bool} {w : World} (h : Rd T b r f w) : w.cell? ⟨b, 0, none⟩ = some (.string (S r)) := by rw [Lib.cell_of_heap h]; rfl
theorem Rd.c1 {T b : Nat} {r : List UInt8} {f : Bool} {w : World} (h : Rd T b r f w) : w.cell? ⟨b, 1, none⟩ = some (.bool f) := by rw [Lib.cell_of_heap h]; rfl
theorem Rd.f {T b : Nat} {r : List UInt8} {f : Bool} {w : World} (h : Rd T b r f w) (j : Nat) : w.frozen? ⟨b, j, none⟩ = false := Lib.frozen_of_heap h j
theorem Rd.lt {T b : Nat} {r : List UInt8} {f : Bool} {w : World} (h : Rd T b r f w) : b < w.heap.size := (Array.getElem?_eq_some_iff.1 h).1
theorem Rd.set0 {T b : Nat} {r : List UInt8} {f : Bool} {w : World} (h : Rd T b r f w) (q : List UInt8) : Rd T b q f (w.setCell ⟨b, 0, none⟩ (.string (S q))) := by
  unfold Rd at h ⊢; simp [World.setCell, Array.getElem?_modify, h]
theorem Rd.set1 {T b : Nat} {r : List UInt8} {f : Bool} {w : World} (h : Rd T b r f w) (g : Bool) : Rd T b r g (w.setCell ⟨b, 1, none⟩ (.bool g)) := by
  unfold Rd at h ⊢; simp [World.setCell, Array.getElem?_modify, h]
theorem FrB.refl (b : Nat) (w : World) : FrB b w w := ⟨rfl, rfl, rfl, Nat.le_refl _, fun _ _ _ => rfl⟩
theorem FrB.trans {b : Nat} {x y z : World} (h : FrB b x y) (k : FrB b y z) : FrB b x z := World.grownBy.trans h k
theorem Fr.frb {w w' : World} (h : Fr w w') (b : Nat) : FrB b w w' := World.grownBy.but h _
theorem FrB.set (b o : Nat) (w : World) (v : Value) : FrB b w (w.setCell ⟨b, o, none⟩ v) :=
  ⟨rfl, rfl, rfl, by simp [World.setCell], fun k _ hk => Below.heap_setCell _ _ _ _ (fun e => hk (by simp [e]))⟩
theorem Rd.fr {T b : Nat} {r : List UInt8} {f : Bool} {w w' : World} (h : Rd T b r f w) (hf : Fr w w') : Rd T b r f w' := hf.heap h
theorem Rd.frb {T b c : Nat} {r : List UInt8} {f : Bool} {w w' : World} (h : Rd T b r f w) (hf : FrB c w w') (hne : b ≠ c) : Rd T b r f w' := by
  unfold Rd at h ⊢; rw [World.grownBy.block hf b (Array.getElem?_eq_some_iff.1 h).1 (by simpa using hne)]; exact h
set_option maxRecDepth 100000 in
theorem Tab.frb {w w' : World} {b : Nat} (h : Tab w) (hf : FrB b w w') (hb : b ≠ 0) : Tab w' := tab_grown h hf (by simpa using fun e => hb e.symm)

theorem fail_any {b : Nat} {r : List UInt8} {f : Bool} {w : World} (h : Rd 114 b r f w) :
    Calls Tryd.prog 58 #[.pointer (some ⟨b, 0, none⟩)] w fun e w' => e = .returned (.tuple #[]) ∧ Rd 114 b [] true w' ∧ FrB b w w' := by
  have c0 := h.c0
  have c1 := h.c1
  have f0 := h.f 0
  have f1 := h.f 1
  have h1 := (h.set0 []).set1 true
  go_enter Tryd.func58, Tryd.ntmps58
  go_wp2
  go_end0
  exact ⟨rfl, h1, (FrB.set b 0 w _).trans (FrB.set b 1 _ _)⟩

/-- A number up to a limit, and a byte behind it. -/
def digE (most : Nat) (e : UInt8) : Wm.Enc Nat := ⟨fun u => u ≤ most, fun u => Lib.decDigits u ++ [e]⟩

/-- What a reading method of a reader in block b, at which r is left, comes to. -/
def Got {α : Type} (T b : Nat) (E : Wm.Enc α) (r : List UInt8) (f : Bool) (x : α → Value) (zero : Value) (e : Ending) (w' : World) : Prop :=
  (∃ v r', E.dom v ∧ r = E.f v ++ r' ∧ e = .returned (x v) ∧ Rd T b r' f w') ∨ ((∀ v r', E.dom v → r ≠ E.f v ++ r') ∧ e = .returned zero ∧ Rd T b [] true w')

set_option maxHeartbeats 2000000 in
set_option maxRecDepth 100000 in
theorem digits_any {b : Nat} {r : List UInt8} {f : Bool} {w : World} (most : Nat) (c : UInt8) (h : Rd 114 b r f w) (hr : r.length ≤ 9223372036854775807) (h9 : 9 ≤ most) (hm : most ≤ 9223372036854775808) (hc : ¬ Wm.isDig c) :
    Calls Tryd.prog 69 #[.pointer (some ⟨b, 0, none⟩), .int .u64 most, .int .u8 c.toNat] w fun e w' => Got 114 b (digE most c) r f (fun u => .int .u64 u) (.int .u64 0) e w' ∧ FrB b w w' := by
  have c0 := h.c0
  have f0 := h.f 0
  go_enter Tryd.func69, Tryd.ntmps69
  go_wp2
  go_loop [7, 8] (fun n i => ∃ k : Nat, k ≤ r.length ∧ i = .int .i64 k ∧ n = .int .u64 (Wm.val (r.take k)) ∧ (∀ d ∈ r.take k, Wm.isDig d) ∧ Wm.val (r.take k) ≤ most) (fun _ i => r.length - (intOf i).toNat)
  case atStart => exact ⟨0, Nat.zero_le _, rfl, rfl, by simp, by simp [Wm.val]⟩
  case round =>
    obtain ⟨k, hk, rfl, rfl, hd, hv⟩ := hrel
    have HD := Lib.hid hd
    clear hd
    by_cases hlt : k < r.length ∧ ∃ h : k < r.length, Wm.isDig r[k]
    · obtain ⟨hlt, _, hdig⟩ := hlt
      have h48 : 48 ≤ ((r[k]).toNat : Int) := by have := hdig.1; omega
      have h57 : ((r[k]).toNat : Int) ≤ 57 := by have := hdig.2; omega
      have HT := Lib.hid (Wm.take_succ r k hlt)
      have HG := Lib.hid hdig
      clear hdig
      generalize hvv : Wm.val (r.take k) = v at *
      have HV := Lib.hid hvv
      clear hvv
      by_cases hov : (most : Int) < v * 10 + ((r[k]).toNat - 48)
      · have hov' : ((most : Int) - ((r[k]).toNat - 48)) / 10 < v := by omega
        have HN : Hid (∀ u r', u ≤ most → r ≠ Lib.decDigits u ++ [c] ++ r') := fun u r' hu e => by
          refine Wm.dig_over hc (by simpa using e) hlt HD.out HG.out (most := most) ?_ hu
          rw [HV.out]; omega
        go_wp2_with fail
        refine (fail_any h).mono ?_
        rintro e w' ⟨rfl, h1, hf⟩
        go_wp2_with fail
        go_ret
        exact ⟨.inr ⟨HN.out, rfl, h1⟩, hf⟩
      · have hov' : (v : Int) ≤ ((most : Int) - ((r[k]).toNat - 48)) / 10 := by omega
        go_wp2_with fail
        go_round
        case rel =>
          refine ⟨k + 1, by omega, by go_num, ?_, ?_, ?_⟩
          · rw [HT.out, Wm.val_snoc, HV.out]; congr 1; omega
          · rw [HT.out]; intro d hd1
            rcases List.mem_append.1 hd1 with h1 | h1
            · exact HD.out d h1
            · simp only [List.mem_singleton] at h1; subst h1; exact HG.out
          · rw [HT.out, Wm.val_snoc, HV.out]; omega
        case measure => simp [intOf]; omega
    · have hstop : ∀ h : k < r.length, ¬ Wm.isDig r[k] := fun h hd => hlt ⟨h, h, hd⟩
      clear hlt
      have HE : Hid (∀ u r', r = Lib.decDigits u ++ [c] ++ r' → ∃ h : k < r.length, r.take k = Lib.decDigits u ∧ r[k] = c ∧ r.drop (k + 1) = r') :=
        fun u r' e => Wm.dig_end hc (by simpa using e) HD.out hk hstop
      have hex : ¬ k < r.length ∨ ∃ h : k < r.length, ((r[k]).toNat : Int) < 48 ∨ 57 < ((r[k]).toNat : Int) := by
        by_cases h : k < r.length
        · have := hstop h
          unfold Wm.isDig at this
          exact .inr ⟨h, by omega⟩
        · exact .inl h
      clear hstop
      by_cases good : ∃ h : k < r.length, 1 ≤ k ∧ (1 < k → r[0] ≠ 48) ∧ r[k] = c
      · obtain ⟨hlt, hk1, hp, hkc⟩ := good
        have HG := Lib.hid (Wm.dig_good HD.out hk1 hlt hp)
        have HS := Lib.hid (Wm.split_take r k hlt)
        have HK := Lib.hid hkc
        have hb0 : ((k : Int) == 0) = false := beq_eq_false_iff_ne.2 (by omega)
        have hb1 : ((k : Int) == (r.length : Int)) = false := beq_eq_false_iff_ne.2 (by omega)
        have hb2 : (((r[k]).toNat : Int) != (c.toNat : Int)) = false := by rw [hkc]; simp
        have hl0 : (0 : Int) < r.length := by omega
        have hl1 : 0 < r.length := by omega
        have hset := h.set0 (r.drop (k + 1))
        have HSET := Lib.hid hset
        have hex' : ((r[k]).toNat : Int) < 48 ∨ 57 < ((r[k]).toNat : Int) := by
          rcases hex with h | ⟨_, h⟩
          · exact absurd hlt h
          · exact h
        have hpd : (k : Int) ≤ 1 ∨ (1 < (k : Int) ∧ (fst r == 48) = false) := by
          by_cases h1 : 1 < k
          · exact .inr ⟨by omega, fst_ne hl1 (hp h1)⟩
          · exact .inl (by omega)
        clear hex hkc hp hset
        generalize hvv : Wm.val (r.take k) = v at *
        have HV := Lib.hid hvv
        clear hvv
        have hidx : ∀ w : World, (Instr.index 9 (.string (S r)) (.int .i64 0)).run Tryd.prog w = .ok (.int .u8 (fst r)) w := fun w => fst_run hl1 w
        rcases hex' with hx | hx <;> rcases hpd with hp | ⟨hp, hp2⟩
        all_goals
          go_wp2_with fail
          go_ret
          rw [S_extract]
          refine ⟨.inl ⟨v, r.drop (k + 1), hv, ?_, rfl, ?_⟩, FrB.set b 0 w _⟩
          · rw [show (digE most c).f v = Lib.decDigits v ++ [c] from rfl, HG.out, ← HK.out, List.append_assoc]; exact HS.out
          · rw [List.take_of_length_le (by simp)]; exact HSET.out
      · have HN : Hid (∀ u r', u ≤ most → r ≠ Lib.decDigits u ++ [c] ++ r') := fun u r' _ e => by
          obtain ⟨h1, h2, h3, _⟩ := HE.out u r' e
          refine good ⟨h1, ?_, fun hk1 e0 => Wm.dig_pad h2 hk1 hk e0, h3⟩
          rcases Nat.eq_zero_or_pos k with h0 | h0
          · subst h0; exact (Wm.dig_zero h2).elim
          · exact h0
        have hfail := HN
        clear HN
        by_cases hk0 : k = 0
        · subst hk0
          rcases hex with hge | ⟨hlt, hx | hx⟩
          all_goals
            go_wp2_with fail
            refine (fail_any h).mono ?_
            rintro e w' ⟨rfl, h1, hf⟩
            go_wp2_with fail
            go_ret
            exact ⟨.inr ⟨hfail.out, rfl, h1⟩, hf⟩
        · have hb0 : ((k : Int) == 0) = false := beq_eq_false_iff_ne.2 (by omega)
          have hl0 : (0 : Int) < r.length := by omega
          have hl1 : 0 < r.length := by omega
          have hidx : ∀ w : World, (Instr.index 9 (.string (S r)) (.int .i64 0)).run Tryd.prog w = .ok (.int .u8 (fst r)) w := fun w => fst_run hl1 w
          by_cases hpad : 1 < k ∧ r[0] = 48
          · obtain ⟨hp, hp0⟩ := hpad
            have hp2 : (fst r == 48) = true := fst_eq hl1 hp0
            clear hp0 good
            rcases hex with hge | ⟨hlt, hx | hx⟩
            all_goals
              go_wp2_with fail
              refine (fail_any h).mono ?_
              rintro e w' ⟨rfl, h1, hf⟩
              go_wp2_with fail
              go_ret
              exact ⟨.inr ⟨hfail.out, rfl, h1⟩, hf⟩
          · have hpd : (k : Int) ≤ 1 ∨ (1 < (k : Int) ∧ (fst r == 48) = false) := by
              by_cases h1 : 1 < k
              · exact .inr ⟨by omega, fst_ne hl1 (fun e => hpad ⟨h1, e⟩)⟩
              · exact .inl (by omega)
            have hck : ∀ h : k < r.length, (((r[k]).toNat : Int) != (c.toNat : Int)) = true := fun h => by
              rw [bne_iff_ne]
              intro e
              exact good ⟨h, by omega, fun h1 e0 => hpad ⟨h1, e0⟩, UInt8.toNat_inj.1 (Int.ofNat.inj e)⟩
            have HCK := Lib.hid hck
            clear hpad good hck
            rcases hpd with hp | ⟨hp, hp2⟩ <;> rcases hex with hge | ⟨hlt, hx | hx⟩
            · obtain rfl : k = r.length := by omega
              go_wp2_with fail
              refine (fail_any h).mono ?_
              rintro e w' ⟨rfl, h1, hf⟩
              go_wp2_with fail
              go_ret
              exact ⟨.inr ⟨hfail.out, rfl, h1⟩, hf⟩
            · have hb1 : ((k : Int) == (r.length : Int)) = false := beq_eq_false_iff_ne.2 (by omega)
              have hb2 := HCK.out hlt
              go_wp2_with fail
              refine (fail_any h).mono ?_
              rintro e w' ⟨rfl, h1, hf⟩
              go_wp2_with fail
              go_ret
              exact ⟨.inr ⟨hfail.out, rfl, h1⟩, hf⟩
            · have hb1 : ((k : Int) == (r.length : Int)) = false := beq_eq_false_iff_ne.2 (by omega)
              have hb2 := HCK.out hlt
              go_wp2_with fail
              refine (fail_any h).mono ?_
              rintro e w' ⟨rfl, h1, hf⟩
              go_wp2_with fail
              go_ret
              exact ⟨.inr ⟨hfail.out, rfl, h1⟩, hf⟩
            · obtain rfl : k = r.length := by omega
              go_wp2_with fail
              refine (fail_any h).mono ?_
              rintro e w' ⟨rfl, h1, hf⟩
              go_wp2_with fail
              go_ret
              exact ⟨.inr ⟨hfail.out, rfl, h1⟩, hf⟩
            · have hb1 : ((k : Int) == (r.length : Int)) = false := beq_eq_false_iff_ne.2 (by omega)
              have hb2 := HCK.out hlt
              go_wp2_with fail
              refine (fail_any h).mono ?_
              rintro e w' ⟨rfl, h1, hf⟩
              go_wp2_with fail
              go_ret
              exact ⟨.inr ⟨hfail.out, rfl, h1⟩, hf⟩
            · have hb1 : ((k : Int) == (r.length : Int)) = false := beq_eq_false_iff_ne.2 (by omega)
              have hb2 := HCK.out hlt
              go_wp2_with fail
              refine (fail_any h).mono ?_
              rintro e w' ⟨rfl, h1, hf⟩
              go_wp2_with fail
              go_ret
              exact ⟨.inr ⟨hfail.out, rfl, h1⟩, hf⟩
end Go.Proofs.YthppefkamklakaaDoor
