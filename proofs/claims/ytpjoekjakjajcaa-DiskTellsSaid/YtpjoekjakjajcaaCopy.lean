/-
  Package disk: Read's errors, the clones, Copy, Arm.
-/
import Derived.Test.YtpjoekjakjajcaaRead
import Derived.Shelf.SlMaps.Clone
namespace Go.Proofs.Ytpjoekjakjajcaa
open Go.RowKit

theorem read_down (O : Nat → Prop) (B : Nat) (f at_ size : Int) (s : RS) (w : World) (h : Dk w O B s) (hdn : s.down = true) :
    Calls Try.prog 20 #[.pointer (some ⟨B, 0, none⟩), .int .i64 f, .int .i64 at_, .int .i64 size] w fun e w' => e = .returned (.tuple #[.string ⟨#[]⟩, .int .i64 8]) ∧ Fr w w' := by
  obtain ⟨M, C, pv, kv, hd⟩ := h
  have c37 := cellOf hd.heap hd.blk.down
  rw [hdn] at c37
  clear hd hdn
  go_enter Try.func20, Try.ntmps20
  go_wp2_with fail
  go_ret2
  exact ⟨rfl, Fr.refl _⟩
theorem read_bad (O : Nat → Prop) (B : Nat) (f at_ size : Int) (s : RS) (w : World) (h : Dk w O B s) (hdn : s.down = false) (hbad : (f < 0 ∨ 16 ≤ f) ∨ at_ < 0 ∨ size < 0) :
    Calls Try.prog 20 #[.pointer (some ⟨B, 0, none⟩), .int .i64 f, .int .i64 at_, .int .i64 size] w fun e w' => e = .returned (.tuple #[.string ⟨#[]⟩, .int .i64 1]) ∧ Fr w w' := by
  obtain ⟨M, C, pv, kv, hd⟩ := h
  have c37 := cellOf hd.heap hd.blk.down
  rw [hdn] at c37
  clear hd hdn
  by_cases hf : f < 0 ∨ 16 ≤ f
  · have HF := Lib.hid hf
    clear hbad hf
    go_enter Try.func20, Try.ntmps20
    go_wp2_with (go_at_call 39; refine (isFile_no f _ HF.out).mono ?_; rintro e w' ⟨rfl, rfl⟩)
    go_ret2
    exact ⟨rfl, Fr.refl _⟩
  · have h0 : 0 ≤ f := by omega
    have h1 : f < 16 := by omega
    by_cases ha : at_ < 0
    · clear hbad hf
      go_enter Try.func20, Try.ntmps20
      go_wp2_with (go_at_call 39; refine (isFile_yes f _ h0 h1).mono ?_; rintro e w' ⟨rfl, rfl⟩)
      go_ret2
      exact ⟨rfl, Fr.refl _⟩
    · have hs : size < 0 := by omega
      clear hbad hf
      go_enter Try.func20, Try.ntmps20
      go_wp2_with (go_at_call 39; refine (isFile_yes f _ h0 h1).mono ?_; rintro e w' ⟨rfl, rfl⟩)
      go_ret2
      exact ⟨rfl, Fr.refl _⟩

/-- Read, whatever it is asked. -/
theorem read_any (O : Nat → Prop) (B : Nat) (f at_ size : Int) (s : RS) (w : World) (h : Dk w O B s) (hI : Inv s) (ha : at_ ≤ 9223372036854775807) (hs1 : size ≤ 9223372036854775807) :
    Calls Try.prog 20 #[.pointer (some ⟨B, 0, none⟩), .int .i64 f, .int .i64 at_, .int .i64 size] w fun e w' => e = .returned (.tuple #[.string ⟨(readL s f at_ size).toArray⟩, .int .i64 (readE s f at_ size)]) ∧ Fr w w' := by
  rcases hdn : s.down with _ | _
  · by_cases hb : (f < 0 ∨ 16 ≤ f) ∨ at_ < 0 ∨ size < 0
    · have e1 : readL s f at_ size = [] := by unfold readL isF; rw [if_pos (by omega)]
      have e2 : readE s f at_ size = 1 := by unfold readE isF; rw [hdn, if_neg Bool.false_ne_true, if_pos (by omega)]
      rw [e1, e2]
      exact read_bad O B f at_ size s w h hdn hb
    · obtain ⟨fn, rfl⟩ : ∃ fn : Nat, f = fn := ⟨f.toNat, by omega⟩
      obtain ⟨an, rfl⟩ : ∃ an : Nat, at_ = an := ⟨at_.toNat, by omega⟩
      have e1 : readL s fn an size = bytesOf s fn an (readN s fn an size) := by unfold readL isF; rw [hdn, if_neg (by simp; omega)]; rfl
      have e2 : readE s fn an size = 0 := by unfold readE isF; rw [hdn, if_neg Bool.false_ne_true, if_neg (by omega)]
      rw [e1, e2]
      exact read_yes O B fn an size _ s w h hI hdn (by omega) ha (by omega) hs1 rfl
  · have e1 : readL s f at_ size = [] := by unfold readL; rw [if_pos (.inl hdn)]
    have e2 : readE s f at_ size = 8 := by unfold readE; rw [if_pos hdn]
    rw [e1, e2]
    exact read_down O B f at_ size s w h hdn

/-! ### Clones -/
set_option maxHeartbeats 1000000 in
theorem mapsClone_any (M : Nat) (es : Array MapEntry) (clock : Nat) (w : World) (hb : w.heap[M]? = some (.map es clock)) :
    Calls Try.prog 41 #[.map (some M)] w fun e w' => e = .returned (.map (some w.heap.size)) ∧ w' = w.alloc (.map es clock) := by
  have hq := fun w => run_eql_map_nil_sl (P := Try.prog) w 52 _ _ (some M) Try.underlying52
  go_enter Try.func41, Try.ntmps41
  go_wp2
  rw [run_callFunc_extern Try.func56 (by kernel_rfl) (by kernel_rfl) (by kernel_rfl) (e := Extern.MapsClone.clone) (by kernel_rfl), run_maps_clone_sl w 52 hb]
  simp only [Result.andThen]
  rw [Oper.upon_value]
  go_wp2
  rw [run_typeAssert_map_sl _ 52 20 _ _ _ Try.underlying52]
  simp only [Result.andThen]
  rw [Oper.upon_value]
  go_wp2
  go_ret
  exact ⟨rfl, rfl⟩
theorem infoInt : (Try.prog.info? 3).map (fun i => (i.zero, i.size, i.bytes)) = some (some (.int .i64 0), 1, 8) := by kernel_rfl

def CloneI (xs : List Value) (n : Nat) (w : World) (e : Ending) (w' : World) : Prop := ∃ v', e = .returned v' ∧ w'.ownsRow w.heap.size 3 1 v' n xs ∧ Fr w w'
set_option maxHeartbeats 1000000 in
theorem cloneI_some (ad : Addr) (n c : Nat) (xs : List Value) (w : World) (hl : xs.length = n * 1) (hc : ∀ j u, xs[j]? = some u → w.cell? (ad.add j) = some u) (h1 : ∀ u ∈ xs, u.oneCell' = true) (hn : n * 8 ≤ 140737488355328) :
    Calls Try.prog 43 #[.slice (some ad) n c] w (CloneI xs n w) := by
  obtain ⟨i0, hi, hz0, hz1, hz2⟩ := info_parts infoInt
  have HIN := Lib.hid hi
  have hq := fun w => Lib.run_eql_slice_nil (P := Try.prog) w 31 _ (some ad) n c 0 0 Try.underlying31
  have hnn : n ≤ 140737488355328 := by omega
  have hnb : (0 + n) * 8 ≤ 140737488355328 := by omega
  have HL := Lib.hid hl
  have H1 := Lib.hid h1
  have HC : Hid (∀ j u, xs[j]? = some u → (w.alloc (.cells #[] 3)).cell? (ad.add j) = some u) := Lib.hid (fun j u hu => by
    exact (Fr.alloc w (.cells #[] 3)).cell (hc j u hu))
  have HO : Hid ((w.alloc (.cells #[] 3)).ownsRow w.heap.size 3 1 (.slice (some ⟨w.heap.size, 0, none⟩) 0 0) 0 []) := Lib.hid (World.ownsRow_lit (base := w.heap.size) (e := 3) (size := 1) w #[] 0 (Nat.le_refl _) (Nat.zero_le _) rfl)
  clear hi hl h1 hc
  go_enter Try.func43, Try.ntmps43
  go_wp2_with ((at_builtin; refine wpList_append_own _ rfl (.tmp 5) (.tmp 6) 31 rfl w.heap.size 3 i0 (.int .i64 0) 1 8 Try.underlying31 HIN.out hz0 hz1 hz2 rfl (by decide) _ _ _ rfl HO.out ad n c xs rfl HL.out HC.out H1.out (by unfold maxLen; omega) hnb (by simp) ?_; intro v1 w1 hown1 hgrow1 _))
  have hg : w1.ownsRow w.heap.size 3 1 v1 n xs := by
    have := hown1
    rw [Nat.zero_add, List.nil_append] at this
    exact this
  have hf : Fr w w1 := ⟨hgrow1.os, hgrow1.tape, hgrow1.output, by have := hgrow1.size; simp at this; omega, fun k hk _ => by
    rw [hgrow1.block k (by simp; omega) (fun e => Nat.ne_of_lt hk (Option.some.inj e))]
    exact (Fr.alloc w _).block hk⟩
  go_ret
  exact ⟨v1, rfl, hg, hf⟩
set_option maxHeartbeats 1000000 in
theorem cloneI_nil (n c : Nat) (w : World) :
    Calls Try.prog 43 #[.slice none n c] w (CloneI [] 0 w) := by
  have hq := fun w => Lib.run_eql_slice_nil (P := Try.prog) w 31 _ none n c 0 0 Try.underlying31
  go_enter Try.func43, Try.ntmps43
  go_wp2_with fail
  go_ret
  exact ⟨_, rfl, World.ownsRow_nil _ _ _ _, Fr.refl _⟩

def CloneP (xs : List Value) (n : Nat) (w : World) (e : Ending) (w' : World) : Prop := ∃ v', e = .returned v' ∧ w'.ownsRow w.heap.size 68 2 v' n xs ∧ Fr w w'
set_option maxHeartbeats 1000000 in
theorem cloneP_some (ad : Addr) (n c : Nat) (xs : List Value) (w : World) (hl : xs.length = n * 2) (hc : ∀ j u, xs[j]? = some u → w.cell? (ad.add j) = some u) (h1 : ∀ u ∈ xs, u.oneCell' = true) (hn : n * 16 ≤ 140737488355328) :
    Calls Try.prog 42 #[.slice (some ad) n c] w (CloneP xs n w) := by
  obtain ⟨i0, hi, hz0, hz1, hz2⟩ := info_parts infoPlace
  have HIN := Lib.hid hi
  have hq := fun w => Lib.run_eql_slice_nil (P := Try.prog) w 54 _ (some ad) n c 0 0 Try.underlying54
  have hnn : n ≤ 140737488355328 := by omega
  have hnb : (0 + n) * 16 ≤ 140737488355328 := by omega
  have HL := Lib.hid hl
  have H1 := Lib.hid h1
  have HC : Hid (∀ j u, xs[j]? = some u → (w.alloc (.cells #[] 68)).cell? (ad.add j) = some u) := Lib.hid (fun j u hu => by
    exact (Fr.alloc w (.cells #[] 68)).cell (hc j u hu))
  have HO : Hid ((w.alloc (.cells #[] 68)).ownsRow w.heap.size 68 2 (.slice (some ⟨w.heap.size, 0, none⟩) 0 0) 0 []) := Lib.hid (World.ownsRow_lit (base := w.heap.size) (e := 68) (size := 2) w #[] 0 (Nat.le_refl _) (Nat.zero_le _) rfl)
  clear hi hl h1 hc
  go_enter Try.func42, Try.ntmps42
  go_wp2_with ((at_builtin; refine wpList_append_own _ rfl (.tmp 5) (.tmp 6) 54 rfl w.heap.size 68 i0 (.agg #[.int .i64 0, .int .i64 0]) 2 16 Try.underlying54 HIN.out hz0 hz1 hz2 rfl (by decide) _ _ _ rfl HO.out ad n c xs rfl HL.out HC.out H1.out (by unfold maxLen; omega) hnb (by simp) ?_; intro v1 w1 hown1 hgrow1 _))
  have hg : w1.ownsRow w.heap.size 68 2 v1 n xs := by
    have := hown1
    rw [Nat.zero_add, List.nil_append] at this
    exact this
  have hf : Fr w w1 := ⟨hgrow1.os, hgrow1.tape, hgrow1.output, by have := hgrow1.size; simp at this; omega, fun k hk _ => by
    rw [hgrow1.block k (by simp; omega) (fun e => Nat.ne_of_lt hk (Option.some.inj e))]
    exact (Fr.alloc w _).block hk⟩
  go_ret
  exact ⟨v1, rfl, hg, hf⟩
set_option maxHeartbeats 1000000 in
theorem cloneP_nil (n c : Nat) (w : World) :
    Calls Try.prog 42 #[.slice none n c] w (CloneP [] 0 w) := by
  have hq := fun w => Lib.run_eql_slice_nil (P := Try.prog) w 54 _ none n c 0 0 Try.underlying54
  go_enter Try.func42, Try.ntmps42
  go_wp2_with fail
  go_ret
  exact ⟨_, rfl, World.ownsRow_nil _ _ _ _, Fr.refl _⟩

theorem iCells_length (k : List Int) : (iCells k).length = k.length * 1 := by simp [iCells]
theorem iCells_one (k : List Int) : ∀ v ∈ iCells k, v.oneCell' = true := by
  intro v hv
  obtain ⟨_, _, rfl⟩ := List.mem_map.1 hv
  rfl
theorem clone_ints (v : Value) (ks : List Int) (w : World) (h : Ints w v ks) (hn : ks.length * 8 ≤ 140737488355328) :
    Calls Try.prog 43 #[v] w (CloneI (iCells ks) ks.length w) := by
  rcases h with ⟨rfl, a, c, rfl⟩ | ⟨b, o, c, rfl, h⟩
  · cases a with
    | none => exact cloneI_nil 0 c w
    | some ad => exact cloneI_some ad 0 c [] w rfl (fun j u hu => by simp at hu) (fun u hu => by simp at hu) (by omega)
  · refine cloneI_some ⟨b, o, none⟩ ks.length c (iCells ks) w (iCells_length ks) (fun j u hu => ?_) (iCells_one ks) hn
    rw [Addr.add_mid]
    have hj : j < ks.length := by have := (List.getElem?_eq_some_iff.1 hu).1; rw [iCells_length] at this; omega
    rw [h j hj, ← hu]
    simp [iCells, hj]
theorem clone_places (v : Value) (q : List (Nat × Nat)) (w : World) (h : w.ownsRow 0 68 2 v q.length (qCells q)) (hn : q.length * 16 ≤ 140737488355328) :
    Calls Try.prog 42 #[v] w (CloneP (qCells q) q.length w) := by
  rcases h.2 with ⟨rfl, h0⟩ | ⟨g, cap, cur, rfl, _⟩
  · have hq : q = [] := List.eq_nil_of_length_eq_zero h0
    subst hq
    exact cloneP_nil 0 0 w
  · refine cloneP_some ⟨g, 0, none⟩ q.length cap (qCells q) w (by rw [qCells_length]) (fun j u hu => ?_) (qCells_one q) hn
    rw [Addr.add_mid, Nat.zero_add, h.cellAt j (by have := (List.getElem?_eq_some_iff.1 hu).1; rw [qCells_length] at this; exact this), hu]

/-! ### Arm -/
def armS (s : RS) (n : Int) (ks : List Int) : RS := { s with calls := n.toNat, keep := ks }
theorem inv_arm {s : RS} (h : Inv s) (n : Int) (ks : List Int) : Inv (armS s n ks) := ⟨h.nodup, h.inQ, h.pd, h.nz, h.dz0, h.le, h.max, h.eq⟩
theorem inv_down {s : RS} (h : Inv s) (b : Bool) : Inv { s with down := b } := ⟨h.nodup, h.inQ, h.pd, h.nz, h.dz0, h.le, h.max, h.eq⟩
set_option maxHeartbeats 1000000 in
theorem arm_any (O : Nat → Prop) (B : Nat) (n : Int) (v : Value) (ks : List Int) (s : RS) (w : World) (h : Dk w O B s) (hk : Ints w v ks) (hn : ks.length * 8 ≤ 140737488355328) :
    Calls Try.prog 27 #[.pointer (some ⟨B, 0, none⟩), .int .i64 n, v] w fun e w' => e = .returned (.tuple #[]) ∧ DkP O w w' B (armS s n ks) := by
  obtain ⟨M, C, pv, kv, hd⟩ := h
  have HCL := Lib.hid (clone_ints v ks w hk hn)
  have HD := Lib.hid hd
  clear hd hk
  rcases Int.lt_or_le 0 n with hpos | hneg
  · obtain ⟨k, rfl⟩ : ∃ k : Nat, n = k := ⟨n.toNat, by omega⟩
    go_enter Try.func27, Try.ntmps27
    go_wp2_with fail
    refine HCL.out.mono ?_
    rintro e w1 ⟨v1, rfl, hr, hf⟩
    have hd1 := HD.out.fr hf
    have g1 := hd1.setB 35 (.int .i64 k) (hd1.blk.setCalls k) (fun _ _ _ => rfl) rfl rfl
    have g2 := g1.setKv v1 ks (ownsRow_heap (row_base hr (Nat.zero_le _)) (fun p hp => heap_setCell_other w1 ⟨B, 35, none⟩ p _ (row_ne (row_base hr (Nat.zero_le _)) hd1.heap (by decide) p hp)))
    obtain ⟨a4, m4, c4, rfl⟩ := row_form hr
    have c35 := cellOf hd1.heap hd1.blk.calls
    have f35 := frozenOf hd1.heap 35
    have c36 := cellOf g1.heap g1.blk.keep
    have f36 := frozenOf g1.heap 36
    have hfin : DkP O w ((w1.setCell ⟨B, 35, none⟩ (.int .i64 k)).setCell ⟨B, 36, none⟩ (.slice a4 m4 c4)) B (armS s k ks) := ⟨_, ⟨M, _, pv, _, g2⟩, fun p hp => by
        rcases hp with hp | hp
        · exact .inl hp
        · exact .inr ⟨(hr.lt p hp).1, by simpa using (hr.lt p hp).2⟩, ((Own.of_fr hf).setCell (.inl hd1.oB) _).setCell (.inl hd1.oB) _⟩
    have HFIN := Lib.hid hfin
    clear hfin g1 g2 hd1 hr hf
    go_wp2_with fail
    go_end0
    exact ⟨rfl, HFIN.out⟩
  · have hn0 : n.toNat = 0 := by omega
    have HN0 := Lib.hid hn0
    clear hn0
    go_enter Try.func27, Try.ntmps27
    go_wp2_with fail
    refine HCL.out.mono ?_
    rintro e w1 ⟨v1, rfl, hr, hf⟩
    have hd1 := HD.out.fr hf
    have g1 := hd1.setB 35 (.int .i64 0) (hd1.blk.setCalls 0) (fun _ _ _ => rfl) rfl rfl
    have g2 := g1.setKv v1 ks (ownsRow_heap (row_base hr (Nat.zero_le _)) (fun p hp => heap_setCell_other w1 ⟨B, 35, none⟩ p _ (row_ne (row_base hr (Nat.zero_le _)) hd1.heap (by decide) p hp)))
    obtain ⟨a4, m4, c4, rfl⟩ := row_form hr
    have c35 := cellOf hd1.heap hd1.blk.calls
    have f35 := frozenOf hd1.heap 35
    have c36 := cellOf g1.heap g1.blk.keep
    have f36 := frozenOf g1.heap 36
    have hfin : DkP O w ((w1.setCell ⟨B, 35, none⟩ (.int .i64 0)).setCell ⟨B, 36, none⟩ (.slice a4 m4 c4)) B (armS s n ks) := by
      have e0 : armS s n ks = { s with calls := 0, keep := ks } := by unfold armS; rw [HN0.out]
      rw [e0]
      exact ⟨_, ⟨M, _, pv, _, g2⟩, fun p hp => by
        rcases hp with hp | hp
        · exact .inl hp
        · exact .inr ⟨(hr.lt p hp).1, by simpa using (hr.lt p hp).2⟩, ((Own.of_fr hf).setCell (.inl hd1.oB) _).setCell (.inl hd1.oB) _⟩
    have HFIN := Lib.hid hfin
    clear hfin g1 g2 hd1 hr hf
    go_wp2_with fail
    go_end0
    exact ⟨rfl, HFIN.out⟩

/-! ### Copy -/
theorem Blk.setFiles {C : Array Value} {M : Nat} {pv kv : Value} {s : RS} (h : Blk C M pv kv s) (M' : Nat) : Blk (C.setIfInBounds 0 (.map (some M'))) M' pv kv s := by
  have hs := h.size
  refine ⟨by simpa using hs, ?_, fun f hf => ?_, fun f hf => ?_, ?_, ?_, ?_, ?_, ?_⟩ <;> rw [setIf_get]
  · rw [if_pos (by omega)]
  · rw [if_neg (by omega)]; exact h.sz f hf
  · rw [if_neg (by omega)]; exact h.dz f hf
  · rw [if_neg (by omega)]; exact h.pend
  · rw [if_neg (by omega)]; exact h.lost
  · rw [if_neg (by omega)]; exact h.calls
  · rw [if_neg (by omega)]; exact h.keep
  · rw [if_neg (by omega)]; exact h.down
theorem Blk.one {C : Array Value} {M : Nat} {pv kv : Value} {s : RS} (h : Blk C M pv kv s) (hp : pv.oneCell' = true) (hk : kv.oneCell' = true) : ∀ v ∈ C.toList, v.oneCell' = true := by
  intro v hv
  obtain ⟨i, hi, rfl⟩ := List.getElem_of_mem hv
  have hi' : i < 38 := by rw [Array.length_toList, h.size] at hi; exact hi
  have e : C[i]? = some (C.toList[i]) := by rw [← Array.getElem?_toList, List.getElem?_eq_getElem hi]
  by_cases c0 : i = 0
  · subst c0; rw [h.files] at e; rw [← Option.some.inj e]; rfl
  by_cases c1 : i < 17
  · have := h.sz (i - 1) (by omega)
    rw [show 1 + (i - 1) = i by omega, e] at this
    rw [Option.some.inj this]; rfl
  by_cases c2 : i < 33
  · have := h.dz (i - 17) (by omega)
    rw [show 17 + (i - 17) = i by omega, e] at this
    rw [Option.some.inj this]; rfl
  rcases (show i = 33 ∨ i = 34 ∨ i = 35 ∨ i = 36 ∨ i = 37 by omega) with c | c | c | c | c
  · have := h.pend; rw [← c, e] at this; rw [Option.some.inj this]; exact hp
  · have := h.lost; rw [← c, e] at this; rw [Option.some.inj this]; rfl
  · have := h.calls; rw [← c, e] at this; rw [Option.some.inj this]; rfl
  · have := h.keep; rw [← c, e] at this; rw [Option.some.inj this]; exact hk
  · have := h.down; rw [← c, e] at this; rw [Option.some.inj this]; rfl
theorem row_one {w : World} {base e size n : Nat} {v : Value} {xs : List Value} (h : w.ownsRow base e size v n xs) : v.oneCell' = true := by
  obtain ⟨a, m, c, rfl⟩ := row_form h; rfl
theorem infoDisk : (Try.prog.info? 56).map (·.size) = some 38 := by kernel_rfl
/-- A copy at some block, in new memory. -/
def CopyP (s : RS) (w : World) (e : Ending) (w' : World) : Prop := ∃ B', e = .returned (.pointer (some ⟨B', 0, none⟩)) ∧ DkP (fun _ => False) w w' B' s
theorem zeroDisk : ∃ Z : List Value, Z.length = 38 ∧ ∀ w : World, (zeroValue 56).run Try.prog w = .ok (.agg Z.toArray) w :=
  ⟨.map none :: (List.replicate 32 (.int .i64 0) ++ [.slice none 0 0, .int .i64 0, .int .i64 0, .slice none 0 0, .bool false]), by simp, fun w => by kernel_rfl⟩
/-- A whole struct is read. -/
theorem wpList_load_disk {ops : Array Oper} {rest : List Oper} {op : Oper} {a : Act} {w : World} {Q : Exit → Act → World → Prop} (hgd : op.guard = none) (x : Operand) (ho : op.op = .load 56 x)
    (b : Nat) (hx : a.eval x = .pointer (some ⟨b, 0, none⟩)) (C : Array Value) (hb : w.heap[b]? = some (.cells C 56 (0, 0))) (hs : C.size = 38)
    (h : wpList Try.prog ops Q rest (a.put op.dst (.agg C)) w) : wpList Try.prog ops Q (op :: rest) a w :=
  wpList_load_row hgd 56 x ho b hx 56 C (0, 0) _ hb Try.underlying56 rfl (by rw [hs]; exact infoDisk) h

set_option maxHeartbeats 1000000 in
theorem copy_any (O : Nat → Prop) (B : Nat) (s : RS) (w : World) (h : Dk w O B s) (hI : Inv s) (hkl : s.keep.length * 8 ≤ 140737488355328) :
    Calls Try.prog 18 #[.pointer (some ⟨B, 0, none⟩)] w (CopyP s w) := by
  have hql := hI.q_le
  obtain ⟨M, C, pv, kv, hd⟩ := h
  obtain ⟨Z, hZl, hz⟩ := zeroDisk
  obtain ⟨m, ⟨es, clock, hmb, hrest⟩, hsec⟩ := hd.secs
  have HSEC := Lib.hid hsec
  have HREST := Lib.hid hrest
  have HMB := Lib.hid hmb
  have HD := Lib.hid hd
  have HCS : Hid (C.size = 38) := Lib.hid hd.blk.size
  have hbh := hd.heap
  have HB := Lib.hid hbh
  have hC1 := hd.blk.one (row_one hd.pend) (row_one hd.keep)
  have hst : (storeCells ⟨w.heap.size, 0, none⟩ C.toList).run Try.prog (w.alloc (.cells Z.toArray 56)) = .ok () (w.alloc (.cells C 56)) :=
    run_storeCells_new (P := Try.prog) w 56 Z.toArray C (by rw [hd.blk.size]; exact infoDisk) (by rw [List.size_toArray, hZl, hd.blk.size]) (by rw [Array.all_eq_true_iff_forall_mem]; exact fun v hv => hC1 v (by simpa using hv))
  have hlB : B < w.heap.size := hd.bound _ hd.oB
  have hlM : M < w.heap.size := hd.bound _ hd.oM
  have hCs : C.size = 38 := HCS.out
  clear hd hmb hsec hrest hC1 hZl
  -- the new block, and what stands in it
  obtain ⟨w1, hw1⟩ : ∃ w1, w1 = w.alloc (.cells C 56) := ⟨_, rfl⟩
  obtain ⟨B', hB'⟩ : ∃ B', B' = w.heap.size := ⟨_, rfl⟩
  have hf1 : Fr w w1 := by rw [hw1]; exact Fr.alloc _ _
  have hb1 : w1.heap[B']? = some (.cells C 56 (0, 0)) := by rw [hw1, hB']; exact heap_alloc_new w _
  have hs1 : w1.heap.size = B' + 1 := by rw [hw1, hB']; simp
  rw [← hw1] at hst
  have HB' := Lib.hid hB'
  have HF1 := Lib.hid hf1
  have HH1 := Lib.hid hb1
  have HS1 := Lib.hid hs1
  clear hw1 hB' hf1 hb1 hs1
  go_enter Try.func18, Try.ntmps18
  go_upto_region 2 with (first
    | ((with_reducible refine wpList_load_disk ?_ (.tmp 5) ?_ B ?_ C HB.out HCS.out ?_)
       · rfl
       · rfl
       · rfl))
  rw [← HB'.out]
  have hD1 := HD.out.fr HF1.out
  have c0 : w1.cell? ⟨B, 0, none⟩ = some (.map (some M)) := cellOf hD1.heap hD1.blk.files
  have hm1 : w1.heap[M]? = some (.map es clock) := (HF1.out.block hlM).trans HMB.out
  have hBB : B < B' := by rw [HB'.out]; exact hlB
  have d0 : w1.cell? ⟨B', 0, none⟩ = some (.map (some M)) := cellOf HH1.out HD.out.blk.files
  have g0 : w1.frozen? ⟨B', 0, none⟩ = false := frozenOf HH1.out 0
  have HD1 := Lib.hid hD1
  have HM1 := Lib.hid hm1
  clear hD1 hm1 hst
  go_wp2_with fail
  refine (mapsClone_any M es clock _ HM1.out).mono ?_
  rintro e w2 ⟨rfl, hw2⟩
  have hf2 : Fr w1 w2 := by rw [hw2]; exact Fr.alloc _ _
  have hm2 : w2.heap[w1.heap.size]? = some (.map es clock) := by rw [hw2]; exact heap_alloc_new w1 _
  have hs2 : w2.heap.size = w1.heap.size + 1 := by rw [hw2]; simp
  obtain ⟨M', hM'⟩ : ∃ M', M' = w1.heap.size := ⟨_, rfl⟩
  rw [← hM'] at hm2 ⊢
  have hB2 : w2.heap[B']? = some (.cells C 56 (0, 0)) := (hf2.block (by rw [HS1.out]; omega)).trans HH1.out
  have d02 := hf2.cell d0
  have g02 : w2.frozen? ⟨B', 0, none⟩ = false := frozenOf hB2 0
  have HF2 := Lib.hid (HF1.out.trans hf2)
  have HM2 := Lib.hid hm2
  have HB2 := Lib.hid hB2
  have HM' := Lib.hid hM'
  have HS2 := Lib.hid hs2
  have hMB : M' = B' + 1 := by rw [hM', HS1.out]
  have HMB' := Lib.hid hMB
  clear hw2 hf2 hm2 hB2 hM' hs2 hMB c0 d0 g0
  go_upto_region 3 with fail
  -- behind the first store
  have hB3 := heapB (i := 0) (v := .map (some M')) HB2.out
  have ho3 := OnlyB.setCell w2 B' 0 (.map (some M'))
  have hF3 : Fr w (w2.setCell ⟨B', 0, none⟩ (.map (some M'))) := HF2.out.only ho3 (by rw [HB'.out]; exact Nat.le_refl _)
  have hm3 := (ho3.block (k := M') (by rw [HMB'.out]; omega)).trans HM2.out
  have hs3 : (w2.setCell ⟨B', 0, none⟩ (.map (some M'))).heap.size = B' + 2 := by rw [ho3.size, HS2.out, HS1.out]
  generalize (w2.setCell ⟨B', 0, none⟩ (.map (some M'))) = w3 at *
  have hD3 := HD.out.fr hF3
  have c33 : w3.cell? ⟨B, 33, none⟩ = some pv := cellOf hD3.heap hD3.blk.pend
  have hb3 := (HD.out.blk).setFiles M'
  have d33 : w3.cell? ⟨B', 33, none⟩ = some pv := cellOf hB3 hb3.pend
  have HB3 := Lib.hid hB3
  have HF3 := Lib.hid hF3
  have HM3 := Lib.hid hm3
  have HS3 := Lib.hid hs3
  have HD3 := Lib.hid hD3
  have HBL3 := Lib.hid hb3
  clear hB3 ho3 hF3 hm3 hs3 hD3 hb3 d02 g02 HD1 HM1 HF1 HF2 HM2 HB2
  go_wp2_with fail
  refine (clone_places pv s.q _ HD3.out.pend (by omega)).mono ?_
  rintro e w4 ⟨v4, rfl, hr4, hf4⟩
  have hB4 := (hf4.block (by rw [HS3.out]; omega)).trans HB3.out
  have d34 := hf4.cell d33
  have g34 : w4.frozen? ⟨B', 33, none⟩ = false := frozenOf hB4 33
  have HB4 := Lib.hid hB4
  have HR4 := Lib.hid hr4
  have HF4 := Lib.hid (HF3.out.trans hf4)
  have HM4 := Lib.hid ((hf4.block (b := M') (by rw [HS3.out, HMB'.out]; omega)).trans HM3.out)
  have HS4 : Hid (B' + 2 ≤ w4.heap.size) := Lib.hid (by have := hf4.size; rw [HS3.out] at this; exact this)
  obtain ⟨a4, m4, x4, rfl⟩ := row_form hr4
  have HW34 : Hid (w3.heap.size = B' + 2) := HS3
  clear hB4 hr4 hf4 c33 d33
  go_upto_region 4 with fail
  have hB5 := heapB (i := 33) (v := .slice a4 m4 x4) HB4.out
  have ho5 := OnlyB.setCell w4 B' 33 (.slice a4 m4 x4)
  have hF5 : Fr w (w4.setCell ⟨B', 33, none⟩ (.slice a4 m4 x4)) := HF4.out.only ho5 (by rw [HB'.out]; exact Nat.le_refl _)
  have hm5 := (ho5.block (k := M') (by rw [HMB'.out]; omega)).trans HM4.out
  have hr5 := ownsRow_heap HR4.out (fun p hp => ho5.block (by have := (HR4.out.lt p hp).1; rw [HS3.out] at this; omega))
  have hs5 : B' + 2 ≤ (w4.setCell ⟨B', 33, none⟩ (.slice a4 m4 x4)).heap.size := by rw [ho5.size]; exact HS4.out
  generalize (w4.setCell ⟨B', 33, none⟩ (.slice a4 m4 x4)) = w5 at *
  have hD5 := HD.out.fr hF5
  have c36 : w5.cell? ⟨B, 36, none⟩ = some kv := cellOf hD5.heap hD5.blk.keep
  have hb5 := HBL3.out.setPend (.slice a4 m4 x4) s.q
  have d36 : w5.cell? ⟨B', 36, none⟩ = some kv := cellOf hB5 hb5.keep
  have HB5 := Lib.hid hB5
  have HF5 := Lib.hid hF5
  have HM5 := Lib.hid hm5
  have HS5 := Lib.hid hs5
  have HR5 := Lib.hid hr5
  have HD5 := Lib.hid hD5
  have HBL5 := Lib.hid hb5
  clear hB5 ho5 hF5 hm5 hr5 hs5 hD5 hb5 d34 g34
  go_wp2_with fail
  refine (clone_ints kv s.keep _ (row_ints HD5.out.keep) hkl).mono ?_
  rintro e w6 ⟨v6, rfl, hr6, hf6⟩
  have hB6 := (hf6.block (by have := HS5.out; omega)).trans HB5.out
  have d66 := hf6.cell d36
  have g66 : w6.frozen? ⟨B', 36, none⟩ = false := frozenOf hB6 36
  have hr56 := HR5.out.kept hf6 (by cases (Value.slice a4 m4 x4).ownBlock <;> simp)
  have hm6 := (hf6.block (b := M') (by have := HS5.out; rw [HMB'.out]; omega)).trans HM5.out
  obtain ⟨a6, m6, x6, rfl⟩ := row_form hr6
  have hF6 := HF5.out.trans hf6
  have hs6 : B' + 2 ≤ w6.heap.size := Nat.le_trans HS5.out hf6.size
  have hfin : DkP (fun _ => False) w (w6.setCell ⟨B', 36, none⟩ (.slice a6 m6 x6)) B' s := by
    have hb6 := HBL5.out.setKeep (.slice a6 m6 x6) s.keep
    have ho6 := OnlyB.setCell w6 B' 36 (.slice a6 m6 x6)
    have hs : (w6.setCell ⟨B', 36, none⟩ (.slice a6 m6 x6)).heap.size = w6.heap.size := ho6.size
    have h0 := HB'.out
    refine ⟨fun k => B' ≤ k ∧ k < w6.heap.size, ⟨M', _, _, _, ⟨fun k hk => by rw [hs]; exact hk.2, ⟨Nat.le_refl _, by omega⟩, ⟨by rw [HMB'.out]; omega, by rw [HMB'.out]; omega⟩, fun p hp => ?_, fun p hp => ?_, heapB hB6, hb6.congr (fun _ _ => rfl) (fun _ _ => rfl) rfl rfl rfl, ?_, ?_, ?_⟩⟩, fun k hk => .inr ⟨by rw [← h0]; exact hk.1, by rw [hs]; exact hk.2⟩, ?_⟩
    · have := hr56.lt p hp
      rw [HS3.out] at this
      exact ⟨by omega, this.2⟩
    · have := hr6.lt p hp
      exact ⟨by have := HS5.out; omega, this.2⟩
    · exact ⟨m, ⟨es, clock, (ho6.block (k := M') (by rw [HMB'.out]; omega)).trans hm6, HREST.out⟩, HSEC.out⟩
    · exact ownsRow_heap (row_base hr56 (Nat.zero_le _)) (fun p hp => ho6.block (by have := (hr56.lt p hp).1; rw [HS3.out] at this; omega))
    · exact ownsRow_heap (row_base hr6 (Nat.zero_le _)) (fun p hp => ho6.block (by have := (hr6.lt p hp).1; have := HS5.out; omega))
    · exact (Own.of_fr hF6).only ho6 (.inr (by rw [← h0]; exact Nat.le_refl _))
  have HFIN := Lib.hid hfin
  clear hfin hB6 hr56 hm6 hF6 hs6 hr6 hf6 c36 d36
  go_wp2_with fail
  go_ret
  exact ⟨B', rfl, HFIN.out⟩
end Go.Proofs.Ytpjoekjakjajcaa
