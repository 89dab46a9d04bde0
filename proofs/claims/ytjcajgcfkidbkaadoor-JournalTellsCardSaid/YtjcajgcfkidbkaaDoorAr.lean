/-
  Package disk: Arm.
-/
import Derived.Test.YtjcajgcfkidbkaaDoorRead
namespace Go.Proofs.YtjcajgcfkidbkaaDoor
open Go.RowKit

set_option maxRecDepth 100000 in
theorem infoInt : (Tryd.prog.info? 3).map (fun i => (i.zero, i.size, i.bytes)) = some (some (.int .i64 0), 1, 8) := by kernel_rfl

def CloneI (xs : List Value) (n : Nat) (w : World) (e : Ending) (w' : World) : Prop := ∃ v', e = .returned v' ∧ w'.ownsRow w.heap.size 3 1 v' n xs ∧ Fr w w'
set_option maxHeartbeats 1000000 in
set_option maxRecDepth 100000 in
theorem cloneI_some (ad : Addr) (n c : Nat) (xs : List Value) (w : World) (hl : xs.length = n * 1) (hc : ∀ j u, xs[j]? = some u → w.cell? (ad.add j) = some u) (h1 : ∀ u ∈ xs, u.oneCell' = true) (hn : n * 8 ≤ 140737488355328) :
    Calls Tryd.prog 57 #[.slice (some ad) n c] w (CloneI xs n w) := by
  obtain ⟨i0, hi, hz0, hz1, hz2⟩ := info_parts infoInt
  have HIN := Lib.hid hi
  have hq := fun w => Lib.run_eql_slice_nil (P := Tryd.prog) w 36 _ (some ad) n c 0 0 Tryd.underlying36
  have hnn : n ≤ 140737488355328 := by omega
  have hnb : (0 + n) * 8 ≤ 140737488355328 := by omega
  have HL := Lib.hid hl
  have H1 := Lib.hid h1
  have HC : Hid (∀ j u, xs[j]? = some u → (w.alloc (.cells #[] 3)).cell? (ad.add j) = some u) := Lib.hid (fun j u hu => by
    exact (Fr.alloc w (.cells #[] 3)).cell (hc j u hu))
  have HO : Hid ((w.alloc (.cells #[] 3)).ownsRow w.heap.size 3 1 (.slice (some ⟨w.heap.size, 0, none⟩) 0 0) 0 []) := Lib.hid (World.ownsRow_lit (base := w.heap.size) (e := 3) (size := 1) w #[] 0 (Nat.le_refl _) (Nat.zero_le _) rfl)
  clear hi hl h1 hc
  go_enter Tryd.func57, Tryd.ntmps57
  go_wp2_with ((at_builtin; refine wpList_append_own _ rfl (.tmp 5) (.tmp 6) 36 rfl w.heap.size 3 i0 (.int .i64 0) 1 8 Tryd.underlying36 HIN.out hz0 hz1 hz2 rfl (by decide) _ _ _ rfl HO.out ad n c xs rfl HL.out HC.out H1.out (by unfold maxLen; omega) hnb (by simp) ?_; intro v1 w1 hown1 hgrow1 _))
  have hg : w1.ownsRow w.heap.size 3 1 v1 n xs := by
    have := hown1
    rw [Nat.zero_add, List.nil_append] at this
    exact this
  have hf : Fr w w1 := ⟨hgrow1.os, hgrow1.tape, hgrow1.output, by have := hgrow1.size; simp at this; omega, fun k hk _ => by
    rw [hgrow1.block k (by simp; omega) (fun e => Nat.ne_of_lt hk (Option.some.inj e))]
    exact (Fr.alloc w _).block hk⟩
  go_ret
  exact ⟨v1, rfl, hg, hf⟩
set_option maxHeartbeats 1000000 in
set_option maxRecDepth 100000 in
theorem cloneI_nil (n c : Nat) (w : World) :
    Calls Tryd.prog 57 #[.slice none n c] w (CloneI [] 0 w) := by
  have hq := fun w => Lib.run_eql_slice_nil (P := Tryd.prog) w 36 _ none n c 0 0 Tryd.underlying36
  go_enter Tryd.func57, Tryd.ntmps57
  go_wp2_with fail
  go_ret
  exact ⟨_, rfl, World.ownsRow_nil _ _ _ _, Fr.refl _⟩
theorem iCells_length (k : List Int) : (iCells k).length = k.length * 1 := by simp [iCells]
theorem iCells_one (k : List Int) : ∀ v ∈ iCells k, v.oneCell' = true := by
  intro v hv
  obtain ⟨_, _, rfl⟩ := List.mem_map.1 hv
  rfl
set_option maxRecDepth 100000 in
theorem clone_ints (v : Value) (ks : List Int) (w : World) (h : Ints w v ks) (hn : ks.length * 8 ≤ 140737488355328) :
    Calls Tryd.prog 57 #[v] w (CloneI (iCells ks) ks.length w) := by
  rcases h with ⟨rfl, a, c, rfl⟩ | ⟨b, o, c, rfl, h⟩
  · cases a with
    | none => exact cloneI_nil 0 c w
    | some ad => exact cloneI_some ad 0 c [] w rfl (fun j u hu => by simp at hu) (fun u hu => by simp at hu) (by omega)
  · refine cloneI_some ⟨b, o, none⟩ ks.length c (iCells ks) w (iCells_length ks) (fun j u hu => ?_) (iCells_one ks) hn
    rw [Addr.add_mid]
    have hj : j < ks.length := by have := (List.getElem?_eq_some_iff.1 hu).1; rw [iCells_length] at this; omega
    rw [h j hj, ← hu]
    simp [iCells, hj]
def armS (s : RS) (n : Int) (ks : List Int) : RS := { s with calls := n.toNat, keep := ks }
theorem inv_arm {s : RS} (h : Inv s) (n : Int) (ks : List Int) : Inv (armS s n ks) := ⟨h.nodup, h.inQ, h.pd, h.nz, h.dz0, h.le, h.max, h.eq⟩
set_option maxRecDepth 100000 in
theorem inv_down {s : RS} (h : Inv s) (b : Bool) : Inv { s with down := b } := ⟨h.nodup, h.inQ, h.pd, h.nz, h.dz0, h.le, h.max, h.eq⟩
set_option maxHeartbeats 1000000 in
theorem arm_any (O : Nat → Prop) (B : Nat) (n : Int) (v : Value) (ks : List Int) (s : RS) (w : World) (h : Dk w O B s) (hk : Ints w v ks) (hn : ks.length * 8 ≤ 140737488355328) :
    Calls Tryd.prog 22 #[.pointer (some ⟨B, 0, none⟩), .int .i64 n, v] w fun e w' => e = .returned (.tuple #[]) ∧ DkP O w w' B (armS s n ks) := by
  obtain ⟨M, C, pv, kv, hd⟩ := h
  have HCL := Lib.hid (clone_ints v ks w hk hn)
  have HD := Lib.hid hd
  clear hd hk
  rcases Int.lt_or_le 0 n with hpos | hneg
  · obtain ⟨k, rfl⟩ : ∃ k : Nat, n = k := ⟨n.toNat, by omega⟩
    go_enter Tryd.func22, Tryd.ntmps22
    go_wp2_with fail
    refine HCL.out.mono ?_
    rintro e w1 ⟨v1, rfl, hr, hf⟩
    have hd1 := HD.out.fr hf
    have g1 := hd1.setB 35 (.int .i64 k) (hd1.blk.setCalls k) (fun _ _ _ => rfl) rfl rfl
    have g2 := g1.setKv v1 ks (ownsRow_heap (row_base hr (Nat.zero_le _)) (fun p hp => heap_setCell_other w1 ⟨B, 35, none⟩ p _ (row_ne (row_base hr (Nat.zero_le _)) hd1.heap (by decide) p hp)))
    obtain ⟨a4, m4, c4, rfl⟩ := row_form hr
    have c35 := cellOf hd1.heap hd1.blk.calls
    have f35 := frozenOf hd1.heap 35
    have c36 := cellOf g1.heap g1.blk.keep
    have f36 := frozenOf g1.heap 36
    have hfin : DkP O w ((w1.setCell ⟨B, 35, none⟩ (.int .i64 k)).setCell ⟨B, 36, none⟩ (.slice a4 m4 c4)) B (armS s k ks) := ⟨_, ⟨M, _, pv, _, g2⟩, fun p hp => by
        rcases hp with hp | hp
        · exact .inl hp
        · exact .inr ⟨(hr.lt p hp).1, by simpa using (hr.lt p hp).2⟩, ((Own.of_fr hf).setCell (.inl hd1.oB) _).setCell (.inl hd1.oB) _⟩
    have HFIN := Lib.hid hfin
    clear hfin g1 g2 hd1 hr hf
    go_wp2_with fail
    go_end0
    exact ⟨rfl, HFIN.out⟩
  · have hn0 : n.toNat = 0 := by omega
    have HN0 := Lib.hid hn0
    clear hn0
    go_enter Tryd.func22, Tryd.ntmps22
    go_wp2_with fail
    refine HCL.out.mono ?_
    rintro e w1 ⟨v1, rfl, hr, hf⟩
    have hd1 := HD.out.fr hf
    have g1 := hd1.setB 35 (.int .i64 0) (hd1.blk.setCalls 0) (fun _ _ _ => rfl) rfl rfl
    have g2 := g1.setKv v1 ks (ownsRow_heap (row_base hr (Nat.zero_le _)) (fun p hp => heap_setCell_other w1 ⟨B, 35, none⟩ p _ (row_ne (row_base hr (Nat.zero_le _)) hd1.heap (by decide) p hp)))
    obtain ⟨a4, m4, c4, rfl⟩ := row_form hr
    have c35 := cellOf hd1.heap hd1.blk.calls
    have f35 := frozenOf hd1.heap 35
    have c36 := cellOf g1.heap g1.blk.keep
    have f36 := frozenOf g1.heap 36
    have hfin : DkP O w ((w1.setCell ⟨B, 35, none⟩ (.int .i64 0)).setCell ⟨B, 36, none⟩ (.slice a4 m4 c4)) B (armS s n ks) := by
      have e0 : armS s n ks = { s with calls := 0, keep := ks } := by unfold armS; rw [HN0.out]
      rw [e0]
      exact ⟨_, ⟨M, _, pv, _, g2⟩, fun p hp => by
        rcases hp with hp | hp
        · exact .inl hp
        · exact .inr ⟨(hr.lt p hp).1, by simpa using (hr.lt p hp).2⟩, ((Own.of_fr hf).setCell (.inl hd1.oB) _).setCell (.inl hd1.oB) _⟩
    have HFIN := Lib.hid hfin
    clear hfin g1 g2 hd1 hr hf
    go_wp2_with fail
    go_end0
    exact ⟨rfl, HFIN.out⟩

/-! ### Copy -/
end Go.Proofs.YtjcajgcfkidbkaaDoor
