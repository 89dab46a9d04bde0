/-
  release; whole facts stored and handed back.
-/
import Derived.Test.YtddeblcoglhdnaaKg
namespace Go.Proofs.Ytddeblcoglhdnaa
open Go.RowKit Mb

theorem infoF : (Try.prog.info? 39).map (fun i => (i.zero, i.size, i.bytes)) = some (some (.agg (mkC 0 [] [] (.slice none 0 0) 0 0).toArray), 29, 408) := by kernel_rfl
theorem infoF1 : (Try.prog.info? 39).map (·.size) = some 29 := by kernel_rfl
/-- What stands in a cell is handed back. -/
theorem results_cell {fn : Func} {tmps : Array Value} {w : World} {a t : Nat} {b o : Nat} {v : Value} (h : fn.results = #[.cell a t]) (ha : tmps.getD a undef = .pointer (some ⟨b, o, none⟩)) (hl : (loadVar t ⟨b, o, none⟩).run Try.prog w = .ok v w) :
    (results fn tmps).run Try.prog w = .ok v w := by
  unfold results
  rw [h]
  rw [Array.getD_eq_getD_getElem?] at ha
  simp [asAddr, ha, hl]
/-- A fact's cells are loaded as one value. -/
theorem load_fact {w : World} {b o : Nat} {f : Ft} (h : FtAt w b o f) : (loadVar 39 ⟨b, o, none⟩).run Try.prog w = .ok f.v w :=
  run_loadVar_mid w b o 39 f.cs _ h.at' Try.underlying39 rfl (by rw [h.ok.len]; exact infoF1)
theorem FtOk.all {w : World} {f : Ft} (h : FtOk w f) : f.cs.toArray.all (·.oneCell') = true := all_oneCell_toArray h.one
set_option maxRecDepth 100000 in
theorem release_any (n : Txt) (w : World) : Calls Try.prog 26 #[.string (S n)] w fun e w' => e = .returned (relF n).v ∧ Fr w w' := by
  have HA := Lib.hid (FtAt.new (relF_ok n w) 39)
  go_enter Try.func26, Try.ntmps26
  go_wp2_with (refine wpList_store_row rfl 39 (.tmp 2) (.tmp 5) rfl w.heap.size (relF n).cs.toArray rfl rfl 39 _ (heap_alloc_last _ _) infoF1 rfl (relF_ok n w).all ?_; rw [World.setRow_alloc_new])
  exact bodyPost_ret (v := (relF n).v) (results_cell Try.results26 rfl (load_fact HA.out)) rfl ⟨rfl, Fr.alloc _ _⟩
end Go.Proofs.Ytddeblcoglhdnaa
