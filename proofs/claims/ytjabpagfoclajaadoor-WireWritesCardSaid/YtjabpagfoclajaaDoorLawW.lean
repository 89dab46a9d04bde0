/-
  The walks of WireWrites.
-/
import Derived.Test.YtjabpagfoclajaaDoorEq
namespace Go.Proofs.YtjabpagfoclajaaDoor
open Go.RowKit Go.BigFrame

/-- The classes of worlds of the regions: only new memory since w0. -/
def Cls (w0 w : World) : Prop := Fr w0 w
theorem Cls.of {w0 w w' : World} (h : Cls w0 w) (hf : Fr w w') : Cls w0 w' := Fr.trans h hf

/-- A region that draws its order, walked once, in whatever class of worlds. -/
theorem wp_region_cls {P : Program} {C : World → Prop} {id : Nat} {Q : Exit → Act → World → Prop} {a : Act} {w : World} {l : List Oper} (hm : P.follows .mixedOrders = true) (hB : Region.lexB .any l.toArray = true) (hC : C w.drew)
    (h : wpQuiet P l.toArray C (fun a' => ∀ w', C w' → Q .normal a' w') l a) : (Code.region id l.toArray true).wp P Q a w :=
  wp_region_quiet hm hB hC (by simpa using h)

set_option maxHeartbeats 1000000 in
theorem few_one (v : V) (w : World) (h : v.ok w) :
    Calls Tryd.prog 10 #[.slice (some ⟨w.heap.size, 0, none⟩) 1 1] (w.alloc (.cells #[.int .i64 v.kd, .int .i64 v.n, .string (S v.s), v.lv, v.tv] 25)) fun e w' => FewPost [v] (w.alloc (.cells #[.int .i64 v.kd, .int .i64 v.n, .string (S v.s), v.lv, v.tv] 25)) e w' := by
  refine few_at w.heap.size 0 1 [v] _ (by simp) (fun k hk => ?_)
  have hk0 : k = 0 := by simp at hk; omega
  subst hk0
  have hb := Bx.new w v
  exact ⟨hb.cell 0, hb.cell 1, hb.cell 2, hb.cell 3, hb.cell 4, h.fr (Fr.alloc _ _)⟩

set_option maxHeartbeats 2000000 in
theorem writes_law (v : V) (w : World) (h : v.ok w) (ht : Tab w) :
    Calls Tryd.prog 3 #[.agg #[.int .i64 v.kd, .int .i64 v.n, .string (S v.s), v.lv, v.tv]] w fun e w' => e = .returned (.bool true) ∧ Fr w w' := by
  go_enter Tryd.func3, Tryd.ntmps3
  go_wp2_with fail
  have hb0 := Bx.new w v
  have hf0 := Fr.alloc w (.cells #[.int .i64 v.kd, .int .i64 v.n, .string (S v.s), v.lv, v.tv] 25)
  refine (small_any _ (ht.fr hf0)).mono ?_
  rintro e w1 ⟨rfl, hf1⟩
  have hb1 := hb0.fr hf1
  have hfw := hf0.trans hf1
  have hok1 := h.fr hfw
  have ht1 := ht.fr hfw
  have c0 := hb1.cell 0
  have c1 := hb1.cell 1
  have c2 := hb1.cell 2
  have c3 := hb1.cell 3
  have c4 := hb1.cell 4
  simp only [V.cells, List.getElem?_toArray, List.getElem?_cons_succ, List.getElem?_cons_zero] at c0 c1 c2 c3 c4
  have HB := Lib.hid hb1
  have hn := h.n
  clear hb0 hf0 hf1 h ht hb1
  go_wp2_with fail
  refine (few_one v w1 hok1).mono ?_
  rintro e w2 ⟨rfl, hf2⟩
  have hf12 := (Fr.alloc w1 (.cells #[.int .i64 v.kd, .int .i64 v.n, .string (S v.s), v.lv, v.tv] 25)).trans hf2
  have hw2 := hfw.trans hf12
  have hok2 := hok1.fr hf12
  have ht2 := ht1.fr hf12
  have d1 := hf12.cell c1
  have d2 := hf12.cell c2
  have d3 := hf12.cell c3
  have d4 := hf12.cell c4
  clear c0 c1 c2 c3 c4 hf2 hf12 hfw hok1 ht1 HB
  rcases hB : fewB [v] with _ | _
  · go_wp2_with fail
    go_ret
    exact ⟨rfl, hw2⟩
  · have hv : v.few := (fewB_true hB).2.1 v (by simp)
    have HV := Lib.hid hv
    have HOK := Lib.hid hok2
    have hn1 := hn.1
    have hn2 := hn.2
    clear hv hok2 hn
    go_wp2_with fail
    by_cases hneg : v.n < 0
    · refine wp_region_cls (C := Cls w2) (by kernel_rfl) (by kernel_rfl) (Fr.drew w2) ?_
      repeat (go_big_quiet_step (first
        | (intro hw'; with_reducible rfl)
        | (intro hw'; go_at_call 11; exact (num_neg v.n _ hneg).mono fun e w'' ⟨he, hf⟩ => ⟨he, hw'.of hf⟩)
        | (intro hw'; go_at_call 12; exact (rnum_neg v.n _ hneg).mono fun e w'' ⟨he, hf⟩ => ⟨he, hw'.of hf⟩)
        | (intro hw'; go_at_call 13; exact (int_any v.n _ hn1 hn2 (ht2.fr hw')).mono fun e w'' ⟨he, hf⟩ => ⟨he, hw'.of hf⟩)
        | (intro hw'; go_at_call 14; exact (rint_any v.n _ hn1 hn2).mono fun e w'' ⟨he, hf⟩ => ⟨he, hw'.of hf⟩)
        | (intro hw'; go_at_call 15; exact (text_any v.s _ (by have := HV.out.s; omega) (ht2.fr hw')).mono fun e w'' ⟨he, hf⟩ => ⟨he, hw'.of hf⟩)
        | (intro hw'; go_at_call 16; exact (rtext_any v.s _ (by have := HV.out.s; omega)).mono fun e w'' ⟨he, hf⟩ => ⟨he, hw'.of hf⟩)
        | (intro hw'; have g1 := Fr.cell hw' d1; simp only [g1]; exact ⟨rfl, rfl⟩)
        | (intro hw'; have g1 := Fr.cell hw' d2; simp only [g1]; exact ⟨rfl, rfl⟩)))
      refine wpQuiet_nil ?_
      intro w3 hw3
      have ht3 := ht2.fr hw3
      have hok3 := HOK.out.fr hw3
      have e3 := Fr.cell hw3 d3
      have e4 := Fr.cell hw3 d4
      have hww : Fr w w3 := hw2.trans hw3
      clear hw3 d1 d2 d3 d4 ht2 hw2
      go_wp2_with fail
      refine wp_region_cls (C := Cls w3) (by kernel_rfl) (by kernel_rfl) (Fr.drew w3) ?_
      repeat (go_big_quiet_step (first
        | (intro hw'; with_reducible rfl)
        | (intro hw'; go_at_call 17; exact (wr_nums v _ (hok3.fr hw') HV.out (ht3.fr hw')).mono fun e w'' ⟨he, hf⟩ => ⟨he, hw'.of hf⟩)
        | (intro hw'; go_at_call 18; exact (rwr_nums v _ (hok3.fr hw') HV.out).mono fun e w'' ⟨he, hf⟩ => ⟨he, hw'.of hf⟩)
        | (intro hw'; go_at_call 19; exact (wr_texts v _ (hok3.fr hw') HV.out (ht3.fr hw')).mono fun e w'' ⟨he, hf⟩ => ⟨he, hw'.of hf⟩)
        | (intro hw'; go_at_call 20; exact (rwr_texts v _ (hok3.fr hw') HV.out).mono fun e w'' ⟨he, hf⟩ => ⟨he, hw'.of hf⟩)
        | (intro hw'; have g1 := Fr.cell hw' e3; simp only [g1]; exact ⟨rfl, rfl⟩)
        | (intro hw'; have g1 := Fr.cell hw' e4; simp only [g1]; exact ⟨rfl, rfl⟩)))
      refine wpQuiet_nil ?_
      intro w4 hw4
      have hw4' : Fr w w4 := hww.trans hw4
      clear hw4 e3 e4 hww ht3
      go_wp2_with fail
      go_ret
      exact ⟨rfl, hw4'⟩
    · refine wp_region_cls (C := Cls w2) (by kernel_rfl) (by kernel_rfl) (Fr.drew w2) ?_
      repeat (go_big_quiet_step (first
        | (intro hw'; with_reducible rfl)
        | (intro hw'; go_at_call 11; exact (num_any v.n _ (by omega) hn2 (ht2.fr hw')).mono fun e w'' ⟨he, hf⟩ => ⟨he, hw'.of hf⟩)
        | (intro hw'; go_at_call 12; exact (rnum_any v.n _ (by omega) hn2).mono fun e w'' ⟨he, hf⟩ => ⟨he, hw'.of hf⟩)
        | (intro hw'; go_at_call 13; exact (int_any v.n _ hn1 hn2 (ht2.fr hw')).mono fun e w'' ⟨he, hf⟩ => ⟨he, hw'.of hf⟩)
        | (intro hw'; go_at_call 14; exact (rint_any v.n _ hn1 hn2).mono fun e w'' ⟨he, hf⟩ => ⟨he, hw'.of hf⟩)
        | (intro hw'; go_at_call 15; exact (text_any v.s _ (by have := HV.out.s; omega) (ht2.fr hw')).mono fun e w'' ⟨he, hf⟩ => ⟨he, hw'.of hf⟩)
        | (intro hw'; go_at_call 16; exact (rtext_any v.s _ (by have := HV.out.s; omega)).mono fun e w'' ⟨he, hf⟩ => ⟨he, hw'.of hf⟩)
        | (intro hw'; have g1 := Fr.cell hw' d1; simp only [g1]; exact ⟨rfl, rfl⟩)
        | (intro hw'; have g1 := Fr.cell hw' d2; simp only [g1]; exact ⟨rfl, rfl⟩)))
      refine wpQuiet_nil ?_
      intro w3 hw3
      have ht3 := ht2.fr hw3
      have hok3 := HOK.out.fr hw3
      have e3 := Fr.cell hw3 d3
      have e4 := Fr.cell hw3 d4
      have hww : Fr w w3 := hw2.trans hw3
      clear hw3 d1 d2 d3 d4 ht2 hw2
      go_wp2_with fail
      refine wp_region_cls (C := Cls w3) (by kernel_rfl) (by kernel_rfl) (Fr.drew w3) ?_
      repeat (go_big_quiet_step (first
        | (intro hw'; with_reducible rfl)
        | (intro hw'; go_at_call 17; exact (wr_nums v _ (hok3.fr hw') HV.out (ht3.fr hw')).mono fun e w'' ⟨he, hf⟩ => ⟨he, hw'.of hf⟩)
        | (intro hw'; go_at_call 18; exact (rwr_nums v _ (hok3.fr hw') HV.out).mono fun e w'' ⟨he, hf⟩ => ⟨he, hw'.of hf⟩)
        | (intro hw'; go_at_call 19; exact (wr_texts v _ (hok3.fr hw') HV.out (ht3.fr hw')).mono fun e w'' ⟨he, hf⟩ => ⟨he, hw'.of hf⟩)
        | (intro hw'; go_at_call 20; exact (rwr_texts v _ (hok3.fr hw') HV.out).mono fun e w'' ⟨he, hf⟩ => ⟨he, hw'.of hf⟩)
        | (intro hw'; have g1 := Fr.cell hw' e3; simp only [g1]; exact ⟨rfl, rfl⟩)
        | (intro hw'; have g1 := Fr.cell hw' e4; simp only [g1]; exact ⟨rfl, rfl⟩)))
      refine wpQuiet_nil ?_
      intro w4 hw4
      have hw4' : Fr w w4 := hww.trans hw4
      clear hw4 e3 e4 hww ht3
      go_wp2_with fail
      go_ret
      exact ⟨rfl, hw4'⟩
end Go.Proofs.YtjabpagfoclajaaDoor
