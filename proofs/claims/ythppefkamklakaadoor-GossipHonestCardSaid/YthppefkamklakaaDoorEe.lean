/-
  Gossip: Spread.
-/
import Derived.Test.YthppefkamklakaaDoorEb
namespace Go.Proofs.YthppefkamklakaaDoor
open Go.RowKit Go.MapKept Go.Maps Go.WideMaps

/-- A slice of pointers to the views. -/
def PSl (w : World) (v : Value) (n : Nat) (p : Nat → Nat) : Prop := ∃ b o c, v = .slice (some ⟨b, o, none⟩) n c ∧ ∀ i, i < n → w.cell? ⟨b, o + i, none⟩ = some (.pointer (some ⟨p i, 0, none⟩))
theorem PSl.fr {w w' : World} {v : Value} {n : Nat} {p : Nat → Nat} (h : PSl w v n p) (hf : Fr w w') : PSl w' v n p := by
  obtain ⟨b, o, c, rfl, h⟩ := h
  exact ⟨b, o, c, rfl, fun i hi => hf.cell (h i hi)⟩
/-- A slice of pairs. -/
def OAt (w : World) (b o : Nat) (l : List (Int × Int)) : Prop := ∀ (i : Nat) (h : i < l.length), w.cell? ⟨b, o + i * 2, none⟩ = some (.int .i64 l[i].1) ∧ w.cell? ⟨b, o + i * 2 + 1, none⟩ = some (.int .i64 l[i].2)
def OSl (w : World) (v : Value) (l : List (Int × Int)) : Prop := (l = [] ∧ ∃ a c, v = .slice a 0 c) ∨ ∃ b o c, v = .slice (some ⟨b, o, none⟩) l.length c ∧ OAt w b o l
theorem OSl.fr {w w' : World} {v : Value} {l : List (Int × Int)} (h : OSl w v l) (hf : Fr w w') : OSl w' v l := by
  rcases h with h | ⟨b, o, c, rfl, h⟩
  · exact .inl h
  · exact .inr ⟨b, o, c, rfl, fun i hi => ⟨hf.cell (h i hi).1, hf.cell (h i hi).2⟩⟩
theorem OSl.len {w : World} {v : Value} {l : List (Int × Int)} (h : OSl w v l) : ∃ a c, v = .slice a l.length c := by
  rcases h with ⟨rfl, a, c, rfl⟩ | ⟨b, o, c, rfl, _⟩
  · exact ⟨a, c, rfl⟩
  · exact ⟨_, c, rfl⟩
theorem OSl.get {w : World} {v : Value} {l : List (Int × Int)} (h : OSl w v l) (h0 : 0 < l.length) : ∃ b o c, v = .slice (some ⟨b, o, none⟩) l.length c ∧ OAt w b o l := by
  rcases h with ⟨rfl, _⟩ | h
  · exact absurd h0 (by simp)
  · exact h

/-- The index of a view, if there is one. -/
def ixo (n : Nat) (x : Int) : Option Nat := if 0 ≤ x ∧ x < n then some x.toNat else none
theorem ixo_lt {n : Nat} {x : Int} {i : Nat} (h : ixo n x = some i) : i < n := by
  unfold ixo at h
  split at h
  · injection h with h; omega
  · exact absurd h (by simp)
def ptrV (p : Nat → Nat) : Option Nat → Value
  | none => .pointer none
  | some i => .pointer (some ⟨p i, 0, none⟩)
set_option maxRecDepth 100000 in
theorem at_any {w : World} {v : Value} {n : Nat} {p : Nat → Nat} (h : PSl w v n p) (_hn : n ≤ 1000) (x : Int) (hx : Wm.inInt x) :
    Calls Tryd.prog 30 #[v, .int .i64 x] w fun e w' => e = .returned (ptrV p (ixo n x)) ∧ w' = w := by
  obtain ⟨b, o, c, rfl, hc⟩ := h
  obtain ⟨hx1, hx2⟩ := hx
  by_cases h0 : x < 0
  · have hi : ixo n x = none := if_neg (by omega)
    rw [hi]
    unfold ptrV
    clear hc hi
    go_enter Tryd.func30, Tryd.ntmps30
    go_wp2_with fail
    go_ret
    exact ⟨rfl, rfl⟩
  · by_cases h1 : x < n
    · have hi : ixo n x = some x.toNat := if_pos ⟨by omega, h1⟩
      obtain ⟨i, rfl⟩ : ∃ i : Nat, x = i := ⟨x.toNat, by omega⟩
      rw [Int.toNat_natCast] at hi
      have hcx := hc i (by omega)
      rw [hi]
      show Calls _ _ _ _ fun e w' => e = .returned (.pointer (some ⟨p i, 0, none⟩)) ∧ w' = w
      generalize p i = P at *
      clear hc hi
      go_enter Tryd.func30, Tryd.ntmps30
      go_wp2_with fail
      go_ret
      exact ⟨rfl, rfl⟩
    · have hi : ixo n x = none := if_neg (by omega)
      rw [hi]
      unfold ptrV
      clear hc hi
      have h2 : (n : Int) ≤ x := by omega
      go_enter Tryd.func30, Tryd.ntmps30
      go_wp2_with fail
      go_ret
      exact ⟨rfl, rfl⟩

/-- A meeting of two views, or of what is none. -/
noncomputable def mo (f : Nat → List Sg) : Option Nat → Option Nat → Option (Sg × Sg)
  | some i, some j => mtC (f i) (f j)
  | _, _ => none
noncomputable def mf (q : List Sd) (k : Int) (f : Nat → List Sg) : Option Nat → Option Nat → Nat → List Sg
  | some i, some j => mtF q k f i j
  | _, _ => f
theorem mtF_ok {q : List Sd} {k : Int} (hq : q.Nodup) {n : Nat} {f : Nat → List Sg} (hf : ∀ i, i < n → LOk q k (f i)) {i j : Nat} (hi : i < n) (hj : j < n) : ∀ x, x < n → LOk q k (mtF q k f i j x) := by
  intro x hx
  cases hm : mtC (f i) (f j) with
  | some y => rw [mtF_some hm]; exact hf x hx
  | none =>
    rw [mtF_none hm]
    have h1 : ∀ y, y < n → LOk q k (up f i (fa q k (f i) (f j)) y) := fun y hy => by
      by_cases hy' : y = i
      · rw [hy', up_at]; exact fa_ok hq _ _ (hf i hi)
      · rw [up_ne _ _ hy']; exact hf y hy
    by_cases hx' : x = j
    · rw [hx', up_at]; exact fa_ok hq _ _ (h1 j hj)
    · rw [up_ne _ _ hx']; exact h1 x hx
theorem mf_ok {q : List Sd} {k : Int} (hq : q.Nodup) {n : Nat} {f : Nat → List Sg} (hf : ∀ i, i < n → LOk q k (f i)) {a b : Option Nat} (ha : ∀ i, a = some i → i < n) (hb : ∀ i, b = some i → i < n) : ∀ x, x < n → LOk q k (mf q k f a b x) := by
  intro x hx
  cases a with
  | none => exact hf x hx
  | some i =>
    cases b with
    | none => exact hf x hx
    | some j => exact mtF_ok hq hf (ha i rfl) (hb j rfl) x hx
theorem mf_some {q : List Sd} {k : Int} {f : Nat → List Sg} {a b : Option Nat} {z : Sg × Sg} (h : mo f a b = some z) : mf q k f a b = f := by
  cases a with
  | none => exact absurd h (by simp [mo])
  | some i =>
    cases b with
    | none => exact absurd h (by simp [mo])
    | some j => exact mtF_some h
/-- What the views have behind the first m meetings. -/
noncomputable def fs (q : List Sd) (k : Int) (n : Nat) (f : Nat → List Sg) (os : List (Int × Int)) (m : Nat) : Nat → List Sg := (os.take m).foldl (fun f o => mf q k f (ixo n o.1) (ixo n o.2)) f
theorem fs_succ (q : List Sd) (k : Int) (n : Nat) (f : Nat → List Sg) {os : List (Int × Int)} {m : Nat} (h : m < os.length) : fs q k n f os (m + 1) = mf q k (fs q k n f os m) (ixo n os[m].1) (ixo n os[m].2) := by
  unfold fs
  rw [List.take_succ_eq_append_getElem h, List.foldl_append]; rfl
theorem fs_ok {q : List Sd} {k : Int} (hq : q.Nodup) {n : Nat} {f : Nat → List Sg} (hf : ∀ i, i < n → LOk q k (f i)) (os : List (Int × Int)) : ∀ m, m ≤ os.length → ∀ x, x < n → LOk q k (fs q k n f os m x) := by
  intro m
  induction m with
  | zero => intro _; exact hf
  | succ m ih =>
    intro hm
    rw [fs_succ q k n f hm]
    exact mf_ok hq (ih (by omega)) (fun i h => ixo_lt h) (fun i h => ixo_lt h)

section
variable {W w : World} {G R : Thing} {t : TypeId} {X : Nat} {a0 a1 a2 b0 b1 b2 z0 z1 z2 y0 y1 y2 : Value}
/-- Two boxes that are new, or were there and are written. -/
theorem two_new (h : Has W w (G.sep R)) : Has W ((w.alloc (.cells #[a0, a1, a2] t)).alloc (.cells #[b0, b1, b2] t)) (G.sep ((BoxT t w.heap.size #[a0, a1, a2]).sep ((BoxT t (w.heap.size + 1) #[b0, b1, b2]).sep R))) := by
  have h1 := (h.box t #[a0, a1, a2]).box t #[b0, b1, b2]
  rw [show (w.alloc (.cells #[a0, a1, a2] t)).heap.size = w.heap.size + 1 by simp] at h1
  exact h1.map fun _ h => sep_under (sp3 h) fun _ h => sep_turn h
theorem two_new' (h : Has W w (G.sep R)) : Has W ((w.alloc (.cells #[b0, b1, b2] t)).alloc (.cells #[a0, a1, a2] t)) (G.sep ((BoxT t (w.heap.size + 1) #[a0, a1, a2]).sep ((BoxT t w.heap.size #[b0, b1, b2]).sep R))) :=
  (two_new h).map fun _ h => sep_under h fun _ h => sep_turn h
theorem set_size (i : Nat) (v : Value) : (w.setCell ⟨X, i, none⟩ v).heap.size = w.heap.size := (OnlyB.setCell w X i v).size
theorem one_new (h : Has W w (G.sep ((BoxT t X #[z0, z1, z2]).sep R))) : Has W ((((w.setCell ⟨X, 0, none⟩ a0).setCell ⟨X, 1, none⟩ a1).setCell ⟨X, 2, none⟩ a2).alloc (.cells #[b0, b1, b2] t)) (G.sep ((BoxT t X #[a0, a1, a2]).sep ((BoxT t w.heap.size #[b0, b1, b2]).sep R))) := by
  have h1 := (((h.turn.set 0 a0).set 1 a1).set 2 a2).box t #[b0, b1, b2]
  rw [set_size, set_size, set_size] at h1
  exact h1.map fun _ h => sep_under (sp3 h) fun _ h => sep_turn h
theorem one_new' (h : Has W w (G.sep ((BoxT t X #[z0, z1, z2]).sep R))) : Has W ((((w.setCell ⟨X, 0, none⟩ b0).setCell ⟨X, 1, none⟩ b1).setCell ⟨X, 2, none⟩ b2).alloc (.cells #[a0, a1, a2] t)) (G.sep ((BoxT t w.heap.size #[a0, a1, a2]).sep ((BoxT t X #[b0, b1, b2]).sep R))) :=
  (one_new h).map fun _ h => sep_under h fun _ h => sep_turn h
theorem none_new {Y : Nat} (h : Has W w (G.sep ((BoxT t Y #[y0, y1, y2]).sep ((BoxT t X #[z0, z1, z2]).sep R)))) : Has W ((((((w.setCell ⟨X, 0, none⟩ a0).setCell ⟨X, 1, none⟩ a1).setCell ⟨X, 2, none⟩ a2).setCell ⟨Y, 0, none⟩ b0).setCell ⟨Y, 1, none⟩ b1).setCell ⟨Y, 2, none⟩ b2) (G.sep ((BoxT t X #[a0, a1, a2]).sep ((BoxT t Y #[b0, b1, b2]).sep R))) := by
  have h1 := (((h.map fun _ h => sp3 h).set 0 a0).set 1 a1).set 2 a2
  have h2 := (((h1.map fun _ h => sp3 h).set 0 b0).set 1 b1).set 2 b2
  exact h2.map fun _ h => sep_under (sp3 h) fun _ h => sep_turn h
end
section
variable {W w : World} {T : (Nat → List Sg) → Thing} {n : Nat} {p : Nat → Nat} {q : List Sd} {k : Int} {f : Nat → List Sg} {U : Thing}
theorem meet_opt (hV : Vs W T n p q k) {a b : Option Nat} (ha : ∀ i, a = some i → i < n) (hb : ∀ i, b = some i → i < n) (h : Has W w ((T f).sep U)) (hf : ∀ i, i < n → LOk q k (f i)) :
    Calls Tryd.prog 16 #[ptrV p a, ptrV p b] w fun e w' => e = .returned (meetV (mo f a b)) ∧ Has W w' ((T (mf q k f a b)).sep U) := by
  cases a with
  | none =>
    cases b with
    | none => exact meet_no none none h (.inl rfl)
    | some j => exact meet_no none _ h (.inl rfl)
  | some i =>
    cases b with
    | none => exact meet_no _ none h (.inr rfl)
    | some j => exact meet_any hV (ha i rfl) (hb j rfl) h (hf i (ha i rfl)) (hf j (hb j rfl))
theorem kz_alloc {w : World} {o : Obj} {Z : Nat} {x y : Value} (h : w.cell? ⟨Z, 0, none⟩ = some x ∧ w.cell? ⟨Z, 1, none⟩ = some y) : (w.alloc o).cell? ⟨Z, 0, none⟩ = some x ∧ (w.alloc o).cell? ⟨Z, 1, none⟩ = some y := ⟨(Fr.alloc w o).cell h.1, (Fr.alloc w o).cell h.2⟩
theorem kz_set {w : World} {X i : Nat} {v : Value} {Z : Nat} {x y : Value} (hX : Z ≠ X) (h : w.cell? ⟨Z, 0, none⟩ = some x ∧ w.cell? ⟨Z, 1, none⟩ = some y) : (w.setCell ⟨X, i, none⟩ v).cell? ⟨Z, 0, none⟩ = some x ∧ (w.setCell ⟨X, i, none⟩ v).cell? ⟨Z, 1, none⟩ = some y := by
  rw [World.cell?_setCell_other _ _ _ _ (fun e => hX (Eq.symm (congrArg Addr.block e))), World.cell?_setCell_other _ _ _ _ (fun e => hX (Eq.symm (congrArg Addr.block e)))]
  exact h
theorem zero_box {w : World} {X : Nat} (h : w.heap[X]? = some (.cells #[.int .i64 0, .string ⟨#[]⟩, .int .i64 0] 37 (0, 0))) : w.cell? ⟨X, 0, none⟩ = some (.int .i64 0) ∧ w.cell? ⟨X, 1, none⟩ = some (.string ⟨#[]⟩) ∧ w.cell? ⟨X, 2, none⟩ = some (.int .i64 0) ∧ w.frozen? ⟨X, 0, none⟩ = false ∧ w.frozen? ⟨X, 1, none⟩ = false ∧ w.frozen? ⟨X, 2, none⟩ = false :=
  ⟨cellOf h rfl, cellOf h rfl, cellOf h rfl, frozenOf h 0, frozenOf h 1, frozenOf h 2⟩
/-- The clash of the meeting m. -/
noncomputable def sc (q : List Sd) (k : Int) (n : Nat) (f : Nat → List Sg) (os : List (Int × Int)) (m : Nat) (h : m < os.length) : Option (Sg × Sg) := mo (fs q k n f os m) (ixo n os[m].1) (ixo n os[m].2)
def spV (j : Nat) (x y : Sg) (b : Bool) : Value := .tuple #[.int .i64 j, sgV x, sgV y, .bool b]
/-- What Spread returns, and what the views have then. -/
def SpreadP (W : World) (T : (Nat → List Sg) → Thing) (n : Nat) (q : List Sd) (k : Int) (f : Nat → List Sg) (U : Thing) (os : List (Int × Int)) (e : Ending) (w' : World) : Prop :=
  (∃ (j : Nat) (hj : j < os.length) (x y : Sg), (∀ m (hm : m < os.length), m < j → sc q k n f os m hm = none) ∧ sc q k n f os j hj = some (x, y) ∧ e = .returned (spV j x y true) ∧ Has W w' ((T (fs q k n f os j)).sep U)) ∨
    ((∀ m (hm : m < os.length), sc q k n f os m hm = none) ∧ e = .returned (spV os.length (0, [], 0) (0, [], 0) false) ∧ Has W w' ((T (fs q k n f os os.length)).sep U))
set_option maxHeartbeats 8000000 in
set_option maxRecDepth 100000 in
theorem spread_any (hV : Vs W T n p q k) (h : Has W w ((T f).sep U)) (hf : ∀ i, i < n → LOk q k (f i)) (hn : n ≤ 1000) {v vo : Value} {os : List (Int × Int)} (hU : ∀ w', Has W w' U → PSl w' v n p ∧ OSl w' vo os)
    (hol : os.length ≤ 1000000) (hoi : ∀ x ∈ os, Wm.inInt x.1 ∧ Wm.inInt x.2) :
    Calls Tryd.prog 13 #[v, vo] w (SpreadP W T n q k f U os) := by
  obtain ⟨ao, co, rfl⟩ := (hU w h.right).2.len
  have HU := Lib.hid hU
  have HOI := Lib.hid hoi
  have HAT := Lib.hid (fun w' (hw : Has W w' U) x hx => at_any (hU w' hw).1 hn x hx)
  have HMT := Lib.hid (fun w' m X (hm : m < os.length) (h : Has W w' ((T (fs q k n f os m)).sep X)) => meet_opt hV (a := ixo n os[m].1) (b := ixo n os[m].2) (fun i h => ixo_lt h) (fun i h => ixo_lt h) h (fs_ok hV.nd hf os m (Nat.le_of_lt hm)))
  have H0 := Lib.hid (((h.box 37 #[.int .i64 0, .string ⟨#[]⟩, .int .i64 0]).box 37 #[.int .i64 0, .string ⟨#[]⟩, .int .i64 0]).pull3)
  have hsz : (w.alloc (.cells #[.int .i64 0, .string ⟨#[]⟩, .int .i64 0] 37)).heap.size = w.heap.size + 1 := by simp
  rw [hsz] at H0
  clear hsz h hV hf hU hoi hn
  go_enter Tryd.func13, Tryd.ntmps13
  go_upto_region 1 with fail
  obtain ⟨B, hB⟩ : ∃ B, B = w.heap.size := ⟨_, rfl⟩
  rw [← hB] at H0 ⊢
  clear hB
  generalize (w.alloc (.cells #[.int .i64 0, .string ⟨#[]⟩, .int .i64 0] 37)).alloc (.cells #[.int .i64 0, .string ⟨#[]⟩, .int .i64 0] 37) = w1 at *
  go_wp2_with fail
  go_loopw [15] (fun iv wr => ∃ m : Nat, m ≤ os.length ∧ iv = .int .i64 m ∧ Hid (Has W wr ((T (fs q k n f os m)).sep ((BoxT 37 (B + 1) #[.int .i64 0, .string ⟨#[]⟩, .int .i64 0]).sep ((BoxT 37 B #[.int .i64 0, .string ⟨#[]⟩, .int .i64 0]).sep U)))) ∧ Hid (∀ x (hx : x < os.length), x < m → sc q k n f os x hx = none)) (fun iv _ => os.length - (intOf iv).toNat)
  case atStart => exact ⟨0, Nat.zero_le _, by go_num, H0, Lib.hid (fun x _ h => absurd h (Nat.not_lt_zero _))⟩
  case round =>
    obtain ⟨m, hm, rfl, HR, HN⟩ := hrel
    clear H0
    by_cases hlt : m < os.length
    · obtain ⟨b, o, c', hv, hc⟩ := (HU.out _ HR.out.right.right.right).2.get (by omega)
      obtain ⟨rfl, rfl⟩ : ao = some ⟨b, o, none⟩ ∧ co = c' := by simpa using hv
      obtain ⟨c0, c1⟩ := hc m hlt
      have hxy := HOI.out _ (List.getElem_mem hlt)
      have HMM := Lib.hid (fun w' X h => HMT.out w' m X hlt h)
      rw [← fs_succ q k n f hlt] at HMM
      have HSC := Lib.hid (show sc q k n f os m hlt = mo (fs q k n f os m) (ixo n os[m].1) (ixo n os[m].2) from rfl)
      rw [← HSC.out] at HMM
      have HAX := Lib.hid (fun w' (hw : Has W w' U) => HAT.out w' hw os[m].1 hxy.1)
      have HAY := Lib.hid (fun w' (hw : Has W w' U) => HAT.out w' hw os[m].2 hxy.2)
      have HNX := Lib.hid (show sc q k n f os m hlt = none → ∀ x (hx : x < os.length), x < m + 1 → sc q k n f os x hx = none from fun h x hx h' => by
        rcases Nat.lt_or_ge x m with h1 | h1
        · exact HN.out x hx h1
        · obtain rfl : x = m := by omega
          exact h)
      have HSQ := Lib.hid (show ∀ z, sc q k n f os m hlt = some z → fs q k n f os (m + 1) = fs q k n f os m from fun z hz => by
        rw [fs_succ q k n f hlt]; rw [HSC.out] at hz; exact mf_some hz)
      obtain ⟨mc, hmc⟩ : ∃ mc, mc = sc q k n f os m hlt := ⟨_, rfl⟩
      rw [← hmc] at HMM HNX HSQ
      have HME := Lib.hid hmc
      clear HSC hmc
      generalize ptrV p (ixo n os[m].1) = px at *
      generalize ptrV p (ixo n os[m].2) = py at *
      generalize os[m].1 = x at *
      generalize os[m].2 = y at *
      clear hv hc hxy
      go_upto_region 4 with fail
      have H4a := Lib.hid ((HR.out.box 53 #[.int .i64 x, .int .i64 y]).turn)
      obtain ⟨Z, hZ⟩ : ∃ Z, Z = wr.heap.size := ⟨_, rfl⟩
      rw [← hZ] at H4a ⊢
      clear hZ c0 c1 HR
      generalize wr.alloc (.cells #[.int .i64 x, .int .i64 y] 53) = wz at *
      obtain ⟨R0, hR0⟩ : ∃ R0, R0 = ((BoxT 53 Z #[.int .i64 x, .int .i64 y]).sep ((BoxT 37 (B + 1) #[.int .i64 0, .string ⟨#[]⟩, .int .i64 0]).sep ((BoxT 37 B #[.int .i64 0, .string ⟨#[]⟩, .int .i64 0]).sep U))) := ⟨_, rfl⟩
      have HRR := Lib.hid hR0
      have HRZ : Hid (∀ w', Has W w' R0 → (w'.cell? ⟨Z, 0, none⟩ = some (.int .i64 x) ∧ w'.cell? ⟨Z, 1, none⟩ = some (.int .i64 y)) ∧ Has W w' U ∧ Z < w'.heap.size) := Lib.hid fun w' h => by
        rw [HRR.out] at h
        exact ⟨⟨cellOf h.boxed rfl, cellOf h.boxed rfl⟩, h.right.right.right, (Array.getElem?_eq_some_iff.1 h.boxed).1⟩
      rw [← hR0] at H4a
      clear hR0
      have H5a := Lib.hid ((H4a.out.box 37 #[.int .i64 0, .string ⟨#[]⟩, .int .i64 0]).turn)
      have H6a := Lib.hid ((H5a.out.box 37 #[.int .i64 0, .string ⟨#[]⟩, .int .i64 0]).turn)
      rw [show (wz.alloc (.cells #[.int .i64 0, .string ⟨#[]⟩, .int .i64 0] 37)).heap.size = wz.heap.size + 1 by simp] at H6a
      have H4 := Lib.hid (H4a.out.fr (Fr.drew _))
      have H5 := Lib.hid (H5a.out.fr (Fr.drew _))
      have H6 := Lib.hid (H6a.out.fr (Fr.drew _))
      clear H4a H5a H6a
      have HZ4 := Lib.hid (HRZ.out _ H4.out.right)
      have HZ5 := Lib.hid (HRZ.out _ H5.out.right.right)
      have HZ6 := Lib.hid (HRZ.out _ H6.out.right.right.right)
      have c0 := HZ4.out.1.1
      have c1 := HZ4.out.1.2
      obtain ⟨ax, bx, tt, hmv⟩ : ∃ (ax bx : Sg) (tt : Bool), meetV mc = .tuple #[.agg #[.int .i64 ax.1, .string (S ax.2.1), .int .i64 ax.2.2], .agg #[.int .i64 bx.1, .string (S bx.2.1), .int .i64 bx.2.2], .bool tt] ∧ (mc = none ∧ tt = false ∨ mc = some (ax, bx) ∧ tt = true) := by
        cases mc with
        | none => exact ⟨(0, [], 0), (0, [], 0), false, rfl, .inl ⟨rfl, rfl⟩⟩
        | some z => obtain ⟨a, b⟩ := z; exact ⟨a, b, true, rfl, .inr ⟨rfl, rfl⟩⟩
      rw [hmv.1] at HMM
      have HMC := Lib.hid hmv.2
      clear hmv
      obtain ⟨a0, a1, a2⟩ := ax
      obtain ⟨b0, b1, b2⟩ := bx
      simp only at HMM
      obtain ⟨f', hf'⟩ : ∃ f', f' = fs q k n f os (m + 1) := ⟨_, rfl⟩
      rw [← hf'] at HMM HSQ
      have HFE := Lib.hid hf'
      clear hf'
      go_cut [10, 11, 12] (fun sa sb st wx => ∃ X Y, sa = .pointer (some ⟨X, 0, none⟩) ∧ sb = .pointer (some ⟨Y, 0, none⟩) ∧ st = .bool tt ∧ Hid (Has W wx ((T f').sep ((BoxT 37 X #[.int .i64 a0, .string (S a1), .int .i64 a2]).sep ((BoxT 37 Y #[.int .i64 b0, .string (S b1), .int .i64 b2]).sep R0)))))
      case first =>
        go_region_held3 (fun w' => w'.cell? ⟨Z, 0, none⟩ = some (.int .i64 x) ∧ w'.cell? ⟨Z, 1, none⟩ = some (.int .i64 y))
          (first | with_reducible exact HZ9.out.1 | with_reducible exact HZ4.out.1 | with_reducible exact HZ5.out.1 | with_reducible exact HZ6.out.1 | (have hlz4 : Z < wz.heap.size := HZ4.out.2.2; have hlz9 := HZ9.out.2.2; repeat first | with_reducible exact HZ9.out.1 | with_reducible refine kz_alloc ?_ | with_reducible refine kz_set (by omega) ?_))
          (first
            | (go_at_call 16
               first
                 | (with_reducible refine (HMM.out _ _ H4.out).mono ?_; rintro e w9 ⟨rfl, h9⟩; have H9 := Lib.hid h9; have HZ9 := Lib.hid (HRZ.out _ h9.right)
                    have n1 := heap_alloc_new w9 (.cells #[.int .i64 0, .string ⟨#[]⟩, .int .i64 0] 37)
                    have n2 := heap_alloc_new (w9.alloc (.cells #[.int .i64 0, .string ⟨#[]⟩, .int .i64 0] 37)) (.cells #[.int .i64 0, .string ⟨#[]⟩, .int .i64 0] 37)
                    have n3 := (Fr.alloc (w9.alloc (.cells #[.int .i64 0, .string ⟨#[]⟩, .int .i64 0] 37)) (.cells #[.int .i64 0, .string ⟨#[]⟩, .int .i64 0] 37)).heap n1
                    rw [show (w9.alloc (.cells #[.int .i64 0, .string ⟨#[]⟩, .int .i64 0] 37)).heap.size = w9.heap.size + 1 by simp] at n2
                    obtain ⟨d0, d1, d2, d3, d4, d5⟩ := zero_box (n1)
                    obtain ⟨e0, e1, e2, e3, e4, e5⟩ := zero_box (n2)
                    obtain ⟨g0, g1, g2, g3, g4, g5⟩ := zero_box (n3)
                    clear h9 n1 n2 n3)
                 | (with_reducible refine (HMM.out _ _ H5.out).mono ?_; rintro e w9 ⟨rfl, h9⟩; have H9 := Lib.hid h9; have HZ9 := Lib.hid (HRZ.out _ h9.right.right)
                    have n1 := h9.right.boxed
                    have hlx := (Array.getElem?_eq_some_iff.1 n1).1
                    have ne1 : ¬ wz.heap.size = w9.heap.size := by omega
                    have ne2 : ¬ w9.heap.size = wz.heap.size := by omega
                    have n2 := (Fr.alloc w9 (.cells #[.int .i64 0, .string ⟨#[]⟩, .int .i64 0] 37)).heap n1
                    have n3 := heap_alloc_new w9 (.cells #[.int .i64 0, .string ⟨#[]⟩, .int .i64 0] 37)
                    obtain ⟨d0, d1, d2, d3, d4, d5⟩ := zero_box (n1)
                    obtain ⟨e0, e1, e2, e3, e4, e5⟩ := zero_box (n2)
                    obtain ⟨g0, g1, g2, g3, g4, g5⟩ := zero_box (n3)
                    clear h9 n1 n2 n3)
                 | (with_reducible refine (HMM.out _ _ H6.out).mono ?_; rintro e w9 ⟨rfl, h9⟩; have H9 := Lib.hid h9; have HZ9 := Lib.hid (HRZ.out _ h9.right.right.right)
                    obtain ⟨d0, d1, d2, d3, d4, d5⟩ := zero_box (h9.right.boxed)
                    obtain ⟨e0, e1, e2, e3, e4, e5⟩ := zero_box (h9.right.right.boxed)
                    clear h9))
            | (go_at_call 30
               have := M1.out
               first
                 | (with_reducible refine (HAY.out _ HZ4.out.2.1).mono ?_; rintro e w8 ⟨rfl, rfl⟩)
                 | (with_reducible refine (HAY.out _ HZ5.out.2.1).mono ?_; rintro e w8 ⟨rfl, rfl⟩)
                 | (with_reducible refine (HAY.out _ HZ6.out.2.1).mono ?_; rintro e w8 ⟨rfl, rfl⟩))
            | (go_at_call 30
               first
                 | (with_reducible refine (HAX.out _ HZ4.out.2.1).mono ?_; rintro e w7 ⟨rfl, rfl⟩; have M1 := Lib.hid True.intro)
                 | (with_reducible refine (HAX.out _ HZ5.out.2.1).mono ?_; rintro e w7 ⟨rfl, rfl⟩; have M1 := Lib.hid True.intro)
                 | (with_reducible refine (HAX.out _ HZ6.out.2.1).mono ?_; rintro e w7 ⟨rfl, rfl⟩; have M1 := Lib.hid True.intro)))
        all_goals
          go_wp2_with fail
          go_meet
          first
            | with_reducible exact ⟨_, _, rfl, rfl, rfl, Lib.hid (two_new H9.out)⟩
            | with_reducible exact ⟨_, _, rfl, rfl, rfl, Lib.hid (two_new' H9.out)⟩
            | with_reducible exact ⟨_, _, rfl, rfl, rfl, Lib.hid (one_new H9.out)⟩
            | with_reducible exact ⟨_, _, rfl, rfl, rfl, Lib.hid (one_new' H9.out)⟩
            | with_reducible exact ⟨_, _, rfl, rfl, rfl, Lib.hid (none_new H9.out)⟩
            | with_reducible exact ⟨_, _, rfl, rfl, rfl, Lib.hid (none_new (H9.out.map fun _ h => sep_under h fun _ h => sep_turn h))⟩
      case rest =>
        rename World => w10
        obtain ⟨X, Y, rfl, rfl, rfl, H10⟩ := hcut
        clear c0 c1 HZ4 HZ5 HZ6 H4 H5 H6 HMM HAX HAY
        have H11 := Lib.hid (show Has W w10 ((BoxT 37 (B + 1) #[.int .i64 0, .string ⟨#[]⟩, .int .i64 0]).sep ((BoxT 37 B #[.int .i64 0, .string ⟨#[]⟩, .int .i64 0]).sep ((T f').sep ((BoxT 37 X #[.int .i64 a0, .string (S a1), .int .i64 a2]).sep ((BoxT 37 Y #[.int .i64 b0, .string (S b1), .int .i64 b2]).sep U))))) from by
          have h1 := H10.out
          rw [HRR.out] at h1
          exact (h1.map fun _ h => sp4 h).right.map fun _ h => sp5 (sp5 h))
        clear H10 HRR HRZ R0
        rcases HMC.out with ⟨rfl, rfl⟩ | ⟨rfl, rfl⟩
        · have HNX' := Lib.hid (HNX.out (by first | rfl | trivial))
          clear HNX
          go_wp2_with fail
          go_roundw
          case rel => exact ⟨m + 1, by omega, by go_num, Lib.hid (by rw [← HFE.out]; exact ((H11.out.map fun _ h => sp4 h).right.map fun _ h => sp4 h).right.map fun _ h => sp3 h), HNX'⟩
          case measure => simp [intOf]; omega
        · clear HNX
          go_upto_region 6 with fail
          have hb2 := H11.out.boxed
          have hb1 := H11.out.right.boxed
          have hbX := H11.out.right.right.right.boxed
          have hbY := H11.out.right.right.right.right.boxed
          have x0 : w10.cell? ⟨X, 0, none⟩ = some (.int .i64 a0) := cellOf hbX rfl
          have x1 : w10.cell? ⟨X, 1, none⟩ = some (.string (S a1)) := cellOf hbX rfl
          have x2 : w10.cell? ⟨X, 2, none⟩ = some (.int .i64 a2) := cellOf hbX rfl
          have y0 : w10.cell? ⟨Y, 0, none⟩ = some (.int .i64 b0) := cellOf hbY rfl
          have y1 : w10.cell? ⟨Y, 1, none⟩ = some (.string (S b1)) := cellOf hbY rfl
          have y2 : w10.cell? ⟨Y, 2, none⟩ = some (.int .i64 b2) := cellOf hbY rfl
          obtain ⟨r0, r1, r2, z0, z1, z2⟩ := zero_box hb1
          obtain ⟨s0, s1, s2, t0, t1, t2⟩ := zero_box hb2
          have hYB : ¬ Y = B := ((H11.out.right.map fun _ h => sep_under h fun _ h => sp3 h).box_ne).symm
          obtain ⟨w4, hw4, h4, ⟨d0, d1, d2⟩, ⟨e0, e1, e2⟩⟩ := shut2 H11.out (.int .i64 a0) (.string (S a1)) (.int .i64 a2) (.int .i64 b0) (.string (S b1)) (.int .i64 b2)
          have HW4 := Lib.hid hw4
          have H4 := Lib.hid ((h4.fr (Fr.drew w4)).turn.right.turn.right)
          replace d0 := (Fr.drew w4).cell d0
          replace d1 := (Fr.drew w4).cell d1
          replace d2 := (Fr.drew w4).cell d2
          replace e0 := (Fr.drew w4).cell e0
          replace e1 := (Fr.drew w4).cell e1
          replace e2 := (Fr.drew w4).cell e2
          clear hb1 hb2 hbX hbY hw4 h4
          go_region
          go_wp2_with fail
          rw [← HW4.out]
          refine bodyPost_ret (v := spV m (a0, a1, a2) (b0, b1, b2) true) (by simp [results, Tryd.results13, go_sem, d0, d1, d2, e0, e1, e2]; rfl) rfl (.inl ⟨m, hlt, (a0, a1, a2), (b0, b1, b2), HN.out, HME.out.symm, rfl, ?_⟩)
          rw [← HSQ.out _ rfl]
          exact H4.out
    · obtain rfl : m = os.length := by omega
      have HB := Lib.hid (HR.out.map fun _ h => ps3 h)
      obtain ⟨s0, s1, s2, t0, t1, t2⟩ := zero_box HB.out.boxed
      obtain ⟨r0, r1, r2, z0, z1, z2⟩ := zero_box HB.out.right.boxed
      obtain ⟨w4, hw4, h4, ⟨d0, d1, d2⟩, ⟨e0, e1, e2⟩⟩ := shut2 HB.out (.int .i64 0) (.string ⟨#[]⟩) (.int .i64 0) (.int .i64 0) (.string ⟨#[]⟩) (.int .i64 0)
      have HW4 := Lib.hid hw4
      have H4 := Lib.hid h4
      clear hw4 h4 HB HR
      go_wp2_with fail
      rw [← HW4.out]
      exact bodyPost_ret (v := spV os.length (0, [], 0) (0, [], 0) false) (by simp [results, Tryd.results13, go_sem, d0, d1, d2, e0, e1, e2]; rfl) rfl (.inr ⟨fun x hx => HN.out x hx hx, rfl, H4.out⟩)
end
end Go.Proofs.YthppefkamklakaaDoor
