/-
  GossipHonest: the way out, and what is true of an honest book.
-/
import Derived.Test.YthppefkamklakaaDoorEf
import Derived.Test.YthppefkamklakaaDoorEhi
namespace Go.Proofs.YthppefkamklakaaDoor
open Go.RowKit Go.MapKept Go.Maps Go.WideMaps

def OArg (l : List (Int × Int)) : Prop := l.length ≤ 9223372036854775807 ∧ ∀ x ∈ l, Wm.inInt x.1 ∧ Wm.inInt x.2
set_option maxHeartbeats 1000000 in
set_option maxRecDepth 100000 in
theorem honest_not (v vo vr : Value) (l : List Tu) (ti : List Int) (os : List (Int × Int)) (w : World) (h : TuSl w v l) (ha : TArg l) (ho : ISl w vo ti) (hoa : IArg ti) (hr : OSl w vr os) (hra : OArg os) (hf : ¬ (FewT l ∧ ti.length ≤ 20 ∧ os.length ≤ 8)) :
    Calls Tryd.prog 3 #[v, vo, vr] w fun e w' => e = .returned (.bool true) ∧ Fr w w' := by
  have H := Lib.hid h
  have HA := Lib.hid ha
  obtain ⟨fb, hfb⟩ : ∃ fb, fb = decide (FewT l) := ⟨_, rfl⟩
  have HF := Lib.hid hfb
  have hb : fb = false ∨ (fb = true ∧ 20 < ti.length) ∨ (fb = true ∧ ti.length ≤ 20 ∧ 8 < os.length) := by
    rw [hfb]
    by_cases h1 : FewT l
    · rcases Nat.lt_or_ge 20 ti.length with h2 | h2
      · exact .inr (.inl ⟨decide_eq_true h1, h2⟩)
      · refine .inr (.inr ⟨decide_eq_true h1, h2, ?_⟩)
        rcases Nat.lt_or_ge 8 os.length with h3 | h3
        · exact h3
        · exact absurd ⟨h1, h2, h3⟩ hf
    · exact .inl (decide_eq_false h1)
  obtain ⟨ao, co, rfl⟩ := ho.len
  obtain ⟨ar, cr, rfl⟩ := hr.len
  have hol := hoa.1
  have hrl := hra.1
  clear h ha hfb hf ho hoa hr hra
  go_enter Tryd.func3, Tryd.ntmps3
  rcases hb with rfl | ⟨rfl, hn⟩ | ⟨rfl, hn, hn2⟩
  · go_wp2_with (first
      | (go_at_call 5; refine (fewT_any _ (H.out.fr hf1) HA.out).mono ?_; rw [← HF.out]; rintro e w3 ⟨rfl, rfl⟩)
      | (go_at_call 4; refine (small_any _).mono ?_; rintro e w1 ⟨rfl, hf1⟩))
    go_ret
    exact ⟨rfl, hf1⟩
  · have hn' : (20 : Int) < (ti.length : Int) := by omega
    go_wp2_with (first
      | (go_at_call 5; refine (fewT_any _ (H.out.fr hf1) HA.out).mono ?_; rw [← HF.out]; rintro e w3 ⟨rfl, rfl⟩)
      | (go_at_call 4; refine (small_any _).mono ?_; rintro e w1 ⟨rfl, hf1⟩))
    go_ret
    exact ⟨rfl, hf1⟩
  · have hn' : ¬ (20 : Int) < (ti.length : Int) := by omega
    have hn3 : (8 : Int) < (os.length : Int) := by omega
    go_wp2_with (first
      | (go_at_call 5; refine (fewT_any _ (H.out.fr hf1) HA.out).mono ?_; rw [← HF.out]; rintro e w3 ⟨rfl, rfl⟩)
      | (go_at_call 4; refine (small_any _).mono ?_; rintro e w1 ⟨rfl, hf1⟩))
    go_ret
    exact ⟨rfl, hf1⟩

/-! ### An honest book -/
theorem hon_pair {s : BS} {q : List Sd} {key : Int} (h : Hon s q) (hs : s.k = key) {a b : Sg} (ha : holds q a = true) (hb : holds q b = true) (ha1 : a.1 = key) (hb1 : b.1 = key) :
    ∃ c d, readC a.2.1 = some c ∧ readC b.2.1 = some d ∧ contra c d = false ∧ contra d c = false := by
  obtain ⟨c, hc, hct, hcq⟩ := hon_claim h hs ha ha1
  obtain ⟨d, hd, hdt, hdq⟩ := hon_claim h hs hb hb1
  exact ⟨c, d, readC_some.2 ⟨hc, hct⟩, readC_some.2 ⟨hd, hdt⟩, h.contra hc hd hcq hdq, h.contra hd hc hdq hcq⟩
theorem hon_conv {s : BS} {q : List Sd} {key : Int} (h : Hon s q) (hs : s.k = key) {a b : Sg} (ha : holds q a = true) (hb : holds q b = true) (ha1 : a.1 = key) (hb1 : b.1 = key) : convE q a b = 19 := by
  obtain ⟨c, d, hc, hd, hcd, _⟩ := hon_pair h hs ha hb ha1 hb1
  rw [convE_at (by rw [ha, hb]; rfl) (ha1.trans hb1.symm) hc hd, hcd]; rfl
theorem hon_meet {s : BS} {q : List Sd} {key : Int} (h : Hon s q) (hs : s.k = key) {la lb : List Sg} (ha : LOk q key la) (hb : LOk q key lb) : mtC la lb = none := mtC_none fun m hm => by
  have hx := List.getElem_mem hm
  have h1 := ha.log _ hx
  refine clR_no h1.1 fun y hy => ?_
  obtain ⟨c, d, hc, hd, hcd, _⟩ := hon_pair h hs (hb.val y hy) (ha.val _ hx) (hb.key y hy) (ha.key _ hx)
  rw [readC_clm hc, readC_clm hd]
  exact hcd
theorem hon_mo {s : BS} {q : List Sd} {key : Int} (h : Hon s q) (hs : s.k = key) {n : Nat} {f : Nat → List Sg} (hf : ∀ i, i < n → LOk q key (f i)) {a b : Option Nat} (ha : ∀ i, a = some i → i < n) (hb : ∀ i, b = some i → i < n) : mo f a b = none := by
  cases a with
  | none => rfl
  | some i =>
    cases b with
    | none => rfl
    | some j => exact hon_meet h hs (hf i (ha i rfl)) (hf j (hb j rfl))
theorem hon_sc {s : BS} {q : List Sd} {key : Int} (h : Hon s q) (hs : s.k = key) (hq : q.Nodup) {n : Nat} {f : Nat → List Sg} (hf : ∀ i, i < n → LOk q key (f i)) (os : List (Int × Int)) (m : Nat) (hm : m < os.length) : sc q key n f os m hm = none :=
  hon_mo h hs (fs_ok hq hf os m (Nat.le_of_lt hm)) (fun _ h => ixo_lt h) (fun _ h => ixo_lt h)
section
variable {W w : World} {B R : Nat} {s : BS} {q : List Sd} {U : Thing}
theorem bvalid (h : Has W w ((BookT B R s q).sep U)) (hq : q.length ≤ 1000000) (x : Sg) : Calls Tryd.prog 24 #[.pointer (some ⟨R, 0, none⟩), sgV x] w fun e w' => e = .returned (.bool (holds q x)) ∧ Fr w w' := by
  obtain ⟨M, ev, m, hb⟩ := h.bopen
  exact Has.valid hb x hq
theorem T3.vsb {V0 V1 V2 : Nat} {k : Int} (hk : IsKey k) (hq : q.Nodup) (hl : q.length ≤ 10000) : Vs W (T3 R k V0 V1 V2 (BookT B R s q)) 3 (p3 V0 V1 V2) q k :=
  T3.vs hk hq hl fun V l w U h hl' hn x hx => (Has.bacc h.turn hl' hq (by omega) hn x hx).mono fun _ _ ⟨he, h'⟩ => ⟨he, h'.turn⟩
end
end Go.Proofs.YthppefkamklakaaDoor
