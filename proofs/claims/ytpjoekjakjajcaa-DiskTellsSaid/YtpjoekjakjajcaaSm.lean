/-
  The law's helper: small. Two disks at once (D2).
-/
import Derived.Test.YtpjoekjakjajcaaPl
namespace Go.Proofs.Ytpjoekjakjajcaa
open Go.RowKit

/-! ### One disk, two disks -/
theorem DN.one {P : Program} {fn : FuncId} {args : Array Value} {W w : World} {B : Nat} {s s1 : RS} {r : Ending} (h : DN W w B s)
    (hc : ∀ O, Dk w O B s → (∀ k, O k → W.heap.size ≤ k) → (∀ k, O k → k < w.heap.size) → Calls P fn args w fun e w' => e = r ∧ DkP O w w' B s1) : Calls P fn args w fun e w' => e = r ∧ DN W w' B s1 := by
  obtain ⟨hf, O, hd, hO⟩ := h
  refine (hc O hd hO hd.bound).mono ?_
  rintro e w' ⟨h1, h2⟩
  exact ⟨h1, .step hf hO h2⟩
theorem DN.look {P : Program} {fn : FuncId} {args : Array Value} {W w : World} {B : Nat} {s : RS} {r : Ending} (h : DN W w B s)
    (hc : ∀ O, Dk w O B s → Calls P fn args w fun e w' => e = r ∧ Fr w w') : Calls P fn args w fun e w' => e = r ∧ DN W w' B s := by
  obtain ⟨hf, O, hd, hO⟩ := h
  refine (hc O hd).mono ?_
  rintro e w' ⟨h1, h2⟩
  exact ⟨h1, hf.trans h2, O, hd.fr h2, hO⟩
/-- Two disks made since the world W. -/
def D2 (W w : World) (B : Nat) (s : RS) (B' : Nat) (s' : RS) : Prop := Fr W w ∧ ∃ O O', Dk w O B s ∧ Dk w O' B' s' ∧ (∀ k, O k → W.heap.size ≤ k) ∧ (∀ k, O' k → W.heap.size ≤ k) ∧ ∀ k, O k → ¬ O' k
theorem D2.fr {W w w' : World} {B B' : Nat} {s s' : RS} (h : D2 W w B s B' s') (hf : Fr w w') : D2 W w' B s B' s' :=
  let ⟨h1, O, O', h2, h3, h4, h5, h6⟩ := h; ⟨h1.trans hf, O, O', h2.fr hf, h3.fr hf, h4, h5, h6⟩
theorem D2.swap {W w : World} {B B' : Nat} {s s' : RS} (h : D2 W w B s B' s') : D2 W w B' s' B s :=
  let ⟨h1, O, O', h2, h3, h4, h5, h6⟩ := h; ⟨h1, O', O, h3, h2, h5, h4, fun k hk hk' => h6 k hk' hk⟩
theorem D2.right {W w : World} {B B' : Nat} {s s' : RS} (h : D2 W w B s B' s') : DN W w B' s' := let ⟨h1, _, O', _, h3, _, h5, _⟩ := h; ⟨h1, O', h3, h5⟩
theorem D2.left {W w : World} {B B' : Nat} {s s' : RS} (h : D2 W w B s B' s') : DN W w B s := h.swap.right
theorem D2.one {P : Program} {fn : FuncId} {args : Array Value} {W w : World} {B B' : Nat} {s s' s1 : RS} {r : Ending} (h : D2 W w B s B' s')
    (hc : ∀ O, Dk w O B s → (∀ k, O k → W.heap.size ≤ k) → (∀ k, O k → k < w.heap.size) → Calls P fn args w fun e w' => e = r ∧ DkP O w w' B s1) : Calls P fn args w fun e w' => e = r ∧ D2 W w' B s1 B' s' := by
  obtain ⟨hf, O, O', hd, hd', hO, hO', hoo⟩ := h
  refine (hc O hd hO hd.bound).mono ?_
  rintro e w' ⟨h1, O1, h2, g2, w2⟩
  refine ⟨h1, hf.of_own hO w2, O1, O', h2, hd'.kept w2 (fun k hk hk' => hoo k hk' hk), fun k hk => ?_, hO', fun k hk hk' => ?_⟩
  · rcases g2 k hk with h3 | h3
    · exact hO k h3
    · exact Nat.le_trans hf.size h3.1
  · rcases g2 k hk with h3 | h3
    · exact hoo k h3 hk'
    · exact absurd (hd'.bound k hk') (by omega)
theorem D2.look {P : Program} {fn : FuncId} {args : Array Value} {W w : World} {B B' : Nat} {s s' : RS} {r : Ending} (h : D2 W w B s B' s')
    (hc : ∀ O, Dk w O B s → Calls P fn args w fun e w' => e = r ∧ Fr w w') : Calls P fn args w fun e w' => e = r ∧ D2 W w' B s B' s' := by
  obtain ⟨hf, O, O', hd, hd', hO, hO', hoo⟩ := h
  refine (hc O hd).mono ?_
  rintro e w' ⟨h1, h2⟩
  exact ⟨h1, hf.trans h2, O, O', hd.fr h2, hd'.fr h2, hO, hO', hoo⟩
/-- A new disk beside one. -/
theorem D2.add {W w w' : World} {B B' : Nat} {s s' : RS} (h : DN W w B s) (hp : DkP (fun _ => False) w w' B' s') : D2 W w' B s B' s' := by
  obtain ⟨hf, O, hd, hO⟩ := h
  obtain ⟨O', h2, g2, w2⟩ := hp
  have hn : ∀ k, O' k → w.heap.size ≤ k := fun k hk => by
    rcases g2 k hk with h3 | h3
    · exact h3.elim
    · exact h3.1
  exact ⟨hf.of_own (fun _ h => h.elim) w2, O, O', hd.kept w2 (fun _ _ h => h), h2, hO, fun k hk => Nat.le_trans hf.size (hn k hk), fun k hk hk' => absurd (hd.bound k hk) (by have := hn k hk'; omega)⟩

theorem DkP2 {P : Program} {fn : FuncId} {args : Array Value} {W w : World} {B B' : Nat} {s s' s1 : RS} {r : Ending} {O O' : Nat → Prop} (h : D2 W w B s B' s') (_hd : Dk w O B s) (hd' : Dk w O' B' s')
    (hO : ∀ k, O k → W.heap.size ≤ k) (hO' : ∀ k, O' k → W.heap.size ≤ k) (hoo : ∀ k, O k → ¬ O' k)
    (hc : Calls P fn args w fun e w' => e = r ∧ DkP O w w' B s1) : Calls P fn args w fun e w' => e = r ∧ D2 W w' B s1 B' s' := by
  refine hc.mono ?_
  rintro e w' ⟨h1, O1, h2, g2, w2⟩
  refine ⟨h1, h.1.of_own hO w2, O1, O', h2, hd'.kept w2 (fun k hk hk' => hoo k hk' hk), fun k hk => ?_, hO', fun k hk hk' => ?_⟩
  · rcases g2 k hk with h3 | h3
    · exact hO k h3
    · exact Nat.le_trans h.1.size h3.1
  · rcases g2 k hk with h3 | h3
    · exact hoo k h3 hk'
    · exact absurd (hd'.bound k hk') (by omega)
/-- Crash with a list that was just made. -/
theorem D2.crash_new {W w : World} {B B' : Nat} {s s' : RS} (h : D2 W w B s B' s') (hg : Good s) (ks : List Int) (n c : Nat) (hn : n = ks.length) (cs : Array Value) (hcs : cs = (iCells ks).toArray) :
    Calls Try.prog 25 #[.pointer (some ⟨B, 0, none⟩), .slice (some ⟨w.heap.size, 0, none⟩) n c] (w.alloc (.cells cs 3)) fun e w' => e = .returned (.tuple #[]) ∧ D2 W w' B (crashS s ks) B' s' := by
  subst hn hcs
  have hb : ∀ O, Dk w O B s → ∀ k, O k → k < w.heap.size := fun O hd => hd.bound
  obtain ⟨hf, O, O', hd, hd', hO, hO', hoo⟩ := h
  have h' : D2 W (w.alloc (.cells (iCells ks).toArray 3)) B s B' s' := D2.fr ⟨hf, O, O', hd, hd', hO, hO', hoo⟩ (Fr.alloc _ _)
  refine (DkP2 h' (hd.fr (Fr.alloc _ _)) (hd'.fr (Fr.alloc _ _)) hO hO' hoo ?_)
  refine crash_any ks _ O B s _ (hd.fr (Fr.alloc _ _)) hg.inv ?_ (fun p _ hp hk => ?_)
  · refine .inr ⟨w.heap.size, 0, c, rfl, fun i hi => ?_⟩
    rw [cell_of_row _ w.heap.size (0 + i) (iCells ks).toArray 3 (0, 0) (heap_alloc_new w _), Nat.zero_add]
    simp [iCells, hi]
  · obtain rfl : w.heap.size = p := by simpa [Value.ownBlock] using hp
    exact absurd (hd.bound _ hk) (by omega)

/-! ### The states of small -/
def t1 : RS := writeS newS 0 0 [97, 98, 99]
def t2 : RS := syncS t1 0
def t3 : RS := writeS t2 0 1 [88, 89]
def t4 : RS := crashS t3 [1]
def t5 : RS := { t4 with down := false }
def d4 : RS := crashS t3 [0]
def d5 : RS := { d4 with down := false }
def d6 : RS := writeS d5 1 62 [97, 98, 99, 100]
def d7 : RS := crashS d6 [0, 1]
def d8 : RS := { d7 with down := false }
def d9 : RS := writeS d8 16 0 []
theorem g1 : Good t1 := good_write good_new _ _ _
theorem g2 : Good t2 := good_sync g1 _
theorem g3 : Good t3 := good_write g2 _ _ _
theorem g4 : Good t4 := good_crash g3 _
theorem good_down {s : RS} (h : Good s) (b : Bool) : Good { s with down := b } := ⟨inv_down h.inv _, h.calls, h.lost, h.keep⟩
theorem g5 : Good t5 := good_down g4 _
theorem k4 : Good d4 := good_crash g3 _
theorem k5 : Good d5 := good_down k4 _
theorem k6 : Good d6 := good_write k5 _ _ _
theorem k7 : Good d7 := good_crash k6 _
theorem k8 : Good d8 := good_down k7 _
theorem k9 : Good d9 := good_write k8 _ _ _
theorem x1 : writeE newS 0 0 [97, 98, 99] = 0 := by decide +kernel
theorem x2 : syncE t1 0 = 0 := by decide +kernel
theorem x4 : t4.down = true := by decide +kernel
theorem x4a : readE t4 0 0 9 = 8 := by decide +kernel
theorem x5 : readL t5 0 0 9 = [97, 88, 89] := by decide +kernel
theorem x5a : readE t5 0 0 9 = 0 := by decide +kernel
theorem y5 : readL d5 0 1 9 = [98, 99] := by decide +kernel
theorem y5a : readE d5 0 1 9 = 0 := by decide +kernel
theorem y6 : writeE d5 1 62 [97, 98, 99, 100] = 0 := by decide +kernel
theorem y8 : readL d8 1 60 100 = [0, 0, 0, 0, 99, 100] := by decide +kernel
theorem y8a : readE d8 1 60 100 = 0 := by decide +kernel
theorem y8b : d8.sz 1 = 66 := by decide +kernel
theorem y9 : writeE d8 16 0 [] = 1 := by decide +kernel
theorem y10 : writeE d9 1 16777216 [97] = 6 := by decide +kernel

set_option maxHeartbeats 8000000 in
theorem small_any (w : World) : Calls Try.prog 8 #[] w fun e w' => e = .returned (.bool true) ∧ Fr w w' := by
  obtain ⟨W, hW⟩ : ∃ W, W = w := ⟨w, rfl⟩
  have HW : Hid (Fr W w) := Lib.hid (by rw [hW]; exact Fr.refl w)
  have HWW := Lib.hid hW
  clear hW
  go_enter Try.func8, Try.ntmps8
  go_wp2_with fail
  refine (new_any _).mono ?_; rintro e w1 ⟨B, rfl, hd⟩
  have H1 : Hid (DN W w1 B newS) := Lib.hid (.step HW.out (fun _ h => h.elim) hd)
  clear hd
  go_wp2_with fail
  refine (H1.out.one (fun O hd hO hb => write_any O _ 0 0 _ [97, 98, 99] newS _ rfl hd good_new.inv good_new.calls (by decide) (by decide))).mono ?_
  rw [x1]
  rintro e w2 ⟨rfl, h⟩
  have H2 : Hid (DN W w2 B t1) := Lib.hid (h)
  clear h H1
  go_wp2_with fail
  refine (H2.out.one (fun O hd hO hb => sync_any O _ 0 t1 _ hd g1.inv g1.calls (by rw [strike_lost]; exact g1.lost))).mono ?_
  rw [x2]
  rintro e w3 ⟨rfl, h⟩
  have H3 : Hid (DN W w3 B t2) := Lib.hid (h)
  clear h H2
  go_wp2_with fail
  refine (H3.out.one (fun O hd hO hb => write_any O _ 0 1 _ [88, 89] t2 _ rfl hd g2.inv g2.calls (by decide) (by decide))).mono ?_
  rintro e w4 ⟨rfl, h⟩
  have H4 : Hid (DN W w4 B t3) := Lib.hid (h)
  clear h H3
  go_wp2_with fail
  have HC4 : Hid (Calls Try.prog 18 #[.pointer (some ⟨B, 0, none⟩)] w4 (fun e w' => ∃ B', e = .returned (.pointer (some ⟨B', 0, none⟩)) ∧ D2 W w' B t3 B' t3)) := Lib.hid (by
    have hH := H4.out
    obtain ⟨_, O, hd, _⟩ := id hH
    refine (copy_any O B t3 _ hd g3.inv (by have := g3.keep; omega)).mono ?_
    rintro e w' ⟨B', rfl, hp⟩
    exact ⟨B', rfl, D2.add hH hp⟩)
  refine HC4.out.mono ?_
  rintro e w5 ⟨B', rfl, h⟩
  have H5 : Hid (D2 W w5 B t3 B' t3) := Lib.hid h
  clear h H4 HC4
  go_wp2_with fail
  refine (H5.out.crash_new g3 [1] _ _ rfl _ rfl).mono ?_
  rintro e w6 ⟨rfl, h⟩
  have H6 : Hid (D2 W w6 B t4 B' t3) := Lib.hid h
  clear h H5
  go_wp2_with fail
  refine (H6.out.look (fun O hd => (down_any O _ t4 _ hd).mono (fun e w' h => ⟨h.1, h.2 ▸ Fr.refl _⟩))).mono ?_
  rw [x4]
  rintro e w7 ⟨rfl, h⟩
  have H7 : Hid (D2 W w7 B t4 B' t3) := Lib.hid h
  clear h H6
  go_wp2_with fail
  refine (H7.out.look (fun O hd => read_any O _ 0 0 9 _ _ hd g4.inv (by decide) (by decide))).mono ?_
  rw [x4a]
  rintro e w8 ⟨rfl, h⟩
  have H8 : Hid (D2 W w8 B t4 B' t3) := Lib.hid h
  clear h H7
  go_wp2_with fail
  refine (H8.out.one (fun O hd hO hb => start_any O _ t4 _ hd)).mono ?_
  rintro e w9 ⟨rfl, h⟩
  have H9 : Hid (D2 W w9 B t5 B' t3) := Lib.hid h
  clear h H8
  go_wp2_with fail
  refine (H9.out.look (fun O hd => read_any O _ 0 0 9 _ _ hd g5.inv (by decide) (by decide))).mono ?_
  rw [x5, x5a]
  rintro e w10 ⟨rfl, h⟩
  have H10 : Hid (D2 W w10 B t5 B' t3) := Lib.hid h
  clear h H9
  go_wp2_with fail
  refine (H10.out.swap.crash_new g3 [0] _ _ rfl _ rfl).mono ?_
  rintro e w11 ⟨rfl, h⟩
  have H11 : Hid (D2 W w11 B' d4 B t5) := Lib.hid h
  clear h H10
  go_wp2_with fail
  refine (H11.out.one (fun O hd hO hb => start_any O _ d4 _ hd)).mono ?_
  rintro e w12 ⟨rfl, h⟩
  have H12 : Hid (D2 W w12 B' d5 B t5) := Lib.hid h
  clear h H11
  go_wp2_with fail
  refine (H12.out.look (fun O hd => read_any O _ 0 1 9 _ _ hd k5.inv (by decide) (by decide))).mono ?_
  rw [y5, y5a]
  rintro e w13 ⟨rfl, h⟩
  have H13 : Hid (D2 W w13 B' d5 B t5) := Lib.hid h
  clear h H12
  go_wp2_with fail
  refine (H13.out.one (fun O hd hO hb => write_any O _ 1 62 _ [97, 98, 99, 100] _ _ rfl hd k5.inv k5.calls (by decide) (by decide))).mono ?_
  rw [y6]
  rintro e w14 ⟨rfl, h⟩
  have H14 : Hid (D2 W w14 B' d6 B t5) := Lib.hid h
  clear h H13
  go_wp2_with fail
  refine (H14.out.crash_new k6 [0, 1] _ _ rfl _ rfl).mono ?_
  rintro e w15 ⟨rfl, h⟩
  have H15 : Hid (D2 W w15 B' d7 B t5) := Lib.hid h
  clear h H14
  go_wp2_with fail
  refine (H15.out.one (fun O hd hO hb => start_any O _ d7 _ hd)).mono ?_
  rintro e w16 ⟨rfl, h⟩
  have H16 : Hid (D2 W w16 B' d8 B t5) := Lib.hid h
  clear h H15
  go_wp2_with fail
  refine (H16.out.look (fun O hd => read_any O _ 1 60 100 _ _ hd k8.inv (by decide) (by decide))).mono ?_
  rw [y8, y8a]
  rintro e w17 ⟨rfl, h⟩
  have H17 : Hid (D2 W w17 B' d8 B t5) := Lib.hid h
  clear h H16
  go_wp2_with fail
  refine (H17.out.look (fun O hd => (size_yes O _ 1 d8 _ hd (by decide)).mono (fun e w' h => ⟨h.1, h.2 ▸ Fr.refl _⟩))).mono ?_
  rw [y8b]
  rintro e w18 ⟨rfl, h⟩
  have H18 : Hid (D2 W w18 B' d8 B t5) := Lib.hid h
  clear h H17
  go_wp2_with fail
  refine (H18.out.one (fun O hd hO hb => write_any O _ 16 0 _ [] _ _ rfl hd k8.inv k8.calls (by decide) (by decide))).mono ?_
  rw [y9]
  rintro e w19 ⟨rfl, h⟩
  have H19 : Hid (D2 W w19 B' d9 B t5) := Lib.hid h
  clear h H18
  go_wp2_with fail
  refine (H19.out.one (fun O hd hO hb => write_any O _ 1 16777216 _ [97] _ _ rfl hd k9.inv k9.calls (by decide) (by decide))).mono ?_
  rw [y10]
  rintro e w20 ⟨rfl, h⟩
  have H20 : Hid (D2 W w20 B' (writeS d9 1 16777216 [97]) B t5) := Lib.hid h
  clear h H19
  go_wp2_with fail
  go_ret
  exact ⟨rfl, by rw [← HWW.out]; exact H20.out.1⟩
end Go.Proofs.Ytpjoekjakjajcaa
