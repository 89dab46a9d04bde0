/-
  Facts that the laws write out; what may be added behind a delegation; steps of regions that draw.
-/
import Derived.Test.YtddeblcoglhdnaaLn
namespace Go.Proofs.Ytddeblcoglhdnaa
open Go.RowKit Mb Go.BigFrame

def toF (n : Txt) (a : Int) (k : Value) : Ft := mkF 5 n [] [a, a + 1] k 2 0
def dgF (n : Txt) (a : Int) (k : Value) (til : Int) : Ft := mkF 6 n [] [a + 5] k 1 til
def rotF (n : Txt) (a : Int) (k : Value) : Ft := mkF 4 n [] [a + 2] k 1 0
def fxF (kd : Int) (n : Txt) (a : Int) (k : Value) : Ft := mkF kd n [] [a + 5] k 1 0
def lgF (l : List Ft) (n : Txt) (a til : Int) (k1 k2 : Value) : List Ft := l ++ [toF n a k1, dgF n a k2 til]
theorem lg_split (l : List Ft) (n : Txt) (a til : Int) (k1 k2 : Value) : lgF l n a til k1 k2 = (l ++ [toF n a k1]) ++ [dgF n a k2 til] := by simp [lgF]
theorem own_lg (l : List Ft) (n : Txt) (a til : Int) (k1 k2 : Value) : own (lgF l n a til k1 k2) n = some (toF n a k1) := by
  rw [lg_split, own_pass _ (isO_not (show (6 : Int) ≠ 5 by decide) (show (6 : Int) ≠ 4 by decide)), own_add (n := n) _ (f := toF n a k1) (isO_k (.inl rfl) rfl)]
theorem dlg_lg (l : List Ft) (n : Txt) (a til : Int) (k1 k2 : Value) : dlg (lgF l n a til k1 k2) n = some (dgF n a k2 til) := by
  rw [lg_split, dlg_add (n := n) _ (f := dgF n a k2 til) rfl rfl]
theorem lg_len (l : List Ft) (n : Txt) (a til : Int) (k1 k2 : Value) : (lgF l n a til k1 k2).length = l.length + 2 := by simp [lgF]
theorem nm_rel (n : Txt) : nm (relF n) = n := rfl
theorem rgt_rel (n : Txt) : rgt (relF n) = true := rfl
theorem sgn_to {n : Txt} {a : Int} {k : Value} {q : List Int} {c : Nat} (h : cnt [a, a + 1] q = c) : sgn (toF n a k) q = decide (2 ≤ c) := by
  show decide ((2 : Int) ≤ ((cnt [a, a + 1] q : Nat) : Int)) = _
  rw [h, Bool.eq_iff_iff, decide_eq_true_eq, decide_eq_true_eq]
  omega
theorem lg1 (l : List Ft) (n : Txt) (a til : Int) (k1 k2 : Value) : may (lgF l n a til k1 k2) [] (relF n) [a + 5] = if ((lgF l n a til k1 k2).length : Int) ≤ til then 0 else 23 := by
  rw [may_own (g := toF n a k1) (rgt_rel n) (by show ¬ ((0 : Int) = 3 ∨ (0 : Int) = 7); decide) (own_lg l n a til k1 k2)]
  rw [sgn_to (cnt_other (by omega) (by omega)), nm_rel, dlg_lg]
  have h : dsg (some (dgF n a k2 til)) (lgF l n a til k1 k2).length (relF n) [a + 5] = decide (((lgF l n a til k1 k2).length : Int) ≤ til) := by
    show (decide ((0 : Int) = 0) && decide (((lgF l n a til k1 k2).length : Int) ≤ til) && decide ((1 : Int) ≤ 1) && decide ((1 : Int) ≤ ((cnt [a + 5] [a + 5] : Nat) : Int))) = _
    rw [cnt_one]
    simp
  rw [h]
  simp
theorem lg2 (l : List Ft) (n : Txt) (a til : Int) (k1 k2 : Value) : may (lgF l n a til k1 k2) [] (relF n) [a + 1, a] = 0 := by
  rw [may_own (g := toF n a k1) (rgt_rel n) (by show ¬ ((0 : Int) = 3 ∨ (0 : Int) = 7); decide) (own_lg l n a til k1 k2)]
  rw [sgn_to (cnt_pair (by omega))]
  rfl
theorem mv4 (l : List Ft) (n : Txt) (a til : Int) (k1 k2 : Value) : may (lgF l n a til k1 k2 ++ [toF n a k1]) [] (relF n) [a + 5] = 23 := by
  rw [may_own (g := toF n a k1) (rgt_rel n) (by show ¬ ((0 : Int) = 3 ∨ (0 : Int) = 7); decide) (own_add _ (isO_k (.inl rfl) rfl))]
  rw [sgn_to (cnt_other (by omega) (by omega)), nm_rel, dlg_drop (n := n) _ (f := toF n a k1) rfl rfl]
  rfl
theorem fx_nm {kd : Int} (hk : kd = 1 ∨ kd = 2 ∨ kd = 4 ∨ kd = 5 ∨ kd = 6) (n : Txt) (a : Int) (k : Value) : nm (fxF kd n a k) = n := by rcases hk with rfl | rfl | rfl | rfl | rfl <;> rfl
theorem fx_rgt {kd : Int} (hk : kd = 1 ∨ kd = 2 ∨ kd = 4 ∨ kd = 5 ∨ kd = 6) (n : Txt) {a : Int} (h1 : 0 ≤ a) (h2 : a < 190) (k : Value) : rgt (fxF kd n a k) = true := by
  have hs : isS [a + 5] = true := isS_one (by omega) (by omega)
  have h456 : ∀ kd, (kd = 4 ∨ kd = 5 ∨ kd = 6) → rgt (fxF kd n a k) = true := fun kd hk => by
    unfold rgt
    rw [if_pos (show (fxF kd n a k).kind = 4 ∨ (fxF kd n a k).kind = 5 ∨ (fxF kd n a k).kind = 6 from hk)]
    show (isS [a + 5] && decide ((1 : Int) ≤ 1) && decide ((1 : Int) ≤ ((1 : Nat) : Int))) = true
    rw [hs]; rfl
  rcases hk with rfl | rfl | rfl | rfl | rfl
  · rfl
  · rfl
  · exact h456 4 (.inl rfl)
  · exact h456 5 (.inr (.inl rfl))
  · exact h456 6 (.inr (.inr rfl))
theorem fx_may {kd : Int} (hk : kd = 1 ∨ kd = 2 ∨ kd = 4 ∨ kd = 5 ∨ kd = 6) (l : List Ft) (n : Txt) {a : Int} (h1 : 0 ≤ a) (h2 : a < 190) (til : Int) (k1 k2 k : Value) (q : List Int) {c : Nat} (hc : cnt [a, a + 1] q = c) :
    may (lgF l n a til k1 k2) [] (fxF kd n a k) q = if 2 ≤ c then 0 else 23 := by
  rw [may_own (g := toF n a k1) (fx_rgt hk n h1 h2 k) (by show ¬ (kd = 3 ∨ kd = 7); omega) (by rw [fx_nm hk]; exact own_lg l n a til k1 k2)]
  rw [sgn_to hc, fx_nm hk, dlg_lg]
  have h : dsg (some (dgF n a k2 til)) (lgF l n a til k1 k2).length (fxF kd n a k) q = false := by
    show (decide (kd = 0) && _ && _ && _) = false
    rw [decide_eq_false (by omega)]; rfl
  rw [h]
  simp
/-- What is asked of the facts that are written out. -/
theorem ok1 {x : Int} (h1 : -1000000 ≤ x) (h2 : x ≤ 1000000) : Ok [x] := ok_lit (by simp) (by simp; omega)
theorem ok2 {x y : Int} (h1 : -1000000 ≤ x ∧ x ≤ 1000000) (h2 : -1000000 ≤ y ∧ y ≤ 1000000) : Ok [x, y] := ok_lit (by simp) (by intro z hz; simp at hz; omega)
theorem ok3 {x y u : Int} (h1 : -1000000 ≤ x ∧ x ≤ 1000000) (h2 : -1000000 ≤ y ∧ y ≤ 1000000) (h3 : -1000000 ≤ u ∧ u ≤ 1000000) : Ok [x, y, u] := ok_lit (by simp) (by intro z hz; simp at hz; omega)
theorem fb_mk {kd : Int} {n : Txt} {ks : List Int} {k : Value} {nd til : Int} (h : Ok ks) (hn : n.length ≤ 9223372036854775807) : FB (mkF kd n [] ks k nd til) := ⟨h, by
  unfold nm
  split
  · show 0 ≤ _; decide
  · split
    · show 0 ≤ _; decide
    · exact hn⟩
theorem fb_rel {n : Txt} (hn : n.length ≤ 9223372036854775807) : FB (relF n) := ⟨Ok.nil, hn⟩
theorem LB.add {l m : List Ft} (h : LB l) (h1 : l.length + m.length ≤ 1000000) (h2 : ∀ f ∈ m, FB f) : LB (l ++ m) := ⟨by rw [List.length_append]; exact h1, fun f hf => (List.mem_append.1 hf).elim (h.mem f) (h2 f)⟩
theorem lb_lg {l : List Ft} (h : LB l) (h1 : l.length ≤ 100) {n : Txt} (hn : n.length ≤ 9223372036854775807) {a til : Int} (ha : 0 ≤ a) (ha2 : a < 190) (k1 k2 : Value) : LB (lgF l n a til k1 k2) := h.add (by show l.length + 2 ≤ _; omega) fun f hf => by
  simp only [List.mem_cons, List.not_mem_nil, or_false] at hf
  rcases hf with rfl | rfl
  · exact fb_mk (ok2 (by omega) (by omega)) hn
  · exact fb_mk (ok1 (by omega) (by omega)) hn

section
variable {ops : Array Oper} {op : Oper} {a : Act} {w : World} {Q : Exit → Act → World → Prop} {K : Act → World → Prop} {E : Prop}
theorem run_build0 (w : World) (t e : TypeId) (i : TypeInfo) (hu : Try.prog.underlying t = some (.slice e)) (hi : Try.prog.info? e = some i) : (Instr.buildSlice t 0 #[]).run Try.prog w = .ok (.slice (some ⟨w.heap.size, 0, none⟩) 0 0) (w.alloc (.cells #[] e)) := by
  simp [Instr.buildSlice, run_underlying hu, sizeOf, typeInfo, hi, Instr.fill, newRow, show Array.range 0 = #[] from rfl]
theorem run_build4 (w : World) (k nd : Int) (n : Txt) (sa : Option Addr) (sn sc : Nat) (ks : List Int) : (Instr.build 39 #[(0, .int .i64 k), (1, .string (S n)), (5, .slice sa sn sc), (6, .int .i64 nd)]).run Try.prog w = .ok (mkF k n [] ks (.slice sa sn sc) nd 0).v w := by
  go_simp
  rfl
theorem run_build5 (w : World) (k nd til : Int) (n : Txt) (sa : Option Addr) (sn sc : Nat) (ks : List Int) : (Instr.build 39 #[(0, .int .i64 k), (1, .string (S n)), (5, .slice sa sn sc), (6, .int .i64 nd), (7, .int .i64 til)]).run Try.prog w = .ok (mkF k n [] ks (.slice sa sn sc) nd til).v w := by
  go_simp
  rfl
theorem step_row0F (hg : op.guard = none) (ho : op.op = .buildSlice 22 0 #[])
    (hK : ∀ B0 w', w'.ownsRow w.heap.size 39 29 (.slice (some ⟨B0, 0, none⟩) 0 0) 0 (fcs []) → Fr w w' → K (a.put op.dst (.slice (some ⟨B0, 0, none⟩) 0 0)) w') : if Region.wanted op (yielded ops a.tmps) = true then Oper.wp Try.prog op a w K Q else E := by
  have hw : Region.wanted op (yielded ops a.tmps) = true := by simp [Region.wanted, hg]
  rw [if_pos hw]
  obtain ⟨i0, hi, hz0, hz1, hz2⟩ := info_parts infoF
  have h := hK _ _ (row0F w) (Fr.alloc w _)
  unfold Oper.wp execOp
  simp only [ho, List.map_toArray, List.map_nil, Sem.run_bind, run_build0 w _ _ _ Try.underlying22 hi, Result.andThen_ok]
  exact h
theorem step_lit1 (hg : op.guard = none) (x : Operand) (ho : op.op = .buildSlice 23 1 #[(0, x)]) (z : Int) (hx : a.eval x = .int .i64 z)
    (hK : ∀ b w', w'.heap[b]? = some (.cells #[.int .i64 z] 3 (0, 0)) → Fr w w' → K (a.put op.dst (.slice (some ⟨b, 0, none⟩) 1 1)) w') : if Region.wanted op (yielded ops a.tmps) = true then Oper.wp Try.prog op a w K Q else E := by
  have hw : Region.wanted op (yielded ops a.tmps) = true := by simp [Region.wanted, hg]
  rw [if_pos hw]
  obtain ⟨i0, hi, hz0, hz1, hz2⟩ := info_parts infoInt
  refine wp_buildSlice 23 3 1 #[(0, x)] ho #[.int .i64 z] i0 _ Try.underlying23 hi hz0 (by rw [hz1]; decide) (by rw [hz1]; decide) ?_ (hK _ _ (MapKept.heap_alloc w _).1 (Fr.alloc w _))
  rw [hz1]
  have hr : Array.range 1 = #[0] := rfl
  simp [hx, hr, Instr.fill, Value.cells]
theorem sl_blk {w : World} {b : Nat} {z : Int} (h : w.heap[b]? = some (.cells #[.int .i64 z] 3 (0, 0))) : Sl w (.slice (some ⟨b, 0, none⟩) 1 1) [z] :=
  .inr ⟨b, 0, 1, rfl, fun i hi => by
    obtain rfl : i = 0 := by simpa using hi
    exact cellOf h (i := 0 + 0) rfl, by simp⟩
theorem blk_grown {w w' : World} {b base n : Nat} {z : Int} {v : Value} {xs : List Value} (h : w.heap[b]? = some (.cells #[.int .i64 z] 3 (0, 0))) (hown : w.ownsRow base 39 29 v n xs) (hg : w.grownBy w' v.ownBlock) : w'.heap[b]? = some (.cells #[.int .i64 z] 3 (0, 0)) := by
  rw [hg.block b (Array.getElem?_eq_some_iff.1 h).1 (fun e => row_ne hown h (by decide) b e.symm rfl)]
  exact h
theorem step_lit_fact1 (hg : op.guard = none) (x : Operand) (ho : op.op = .buildSlice 22 1 #[(0, x)]) (f : Ft) (hx : a.eval x = f.v) (hok : FtOk w f)
    (hK : ∀ v' w', FSl w' v' [f] → Fr w w' → K (a.put op.dst v') w') : if Region.wanted op (yielded ops a.tmps) = true then Oper.wp Try.prog op a w K Q else E := by
  have h1 : ∀ g ∈ [f], FtOk w g := by intro g hg'; rw [List.mem_singleton] at hg'; subst hg'; exact hok
  exact step_build_fact1 hg x ho f hx h1 (hK _ _ (FSl.own (rowF w [f] h1 (by show 1 ≤ 1000; decide)) rfl (fun g hg' => (h1 g hg').fr (Fr.alloc _ _))) (Fr.alloc w _))
theorem step_lit_fact2 (hg : op.guard = none) (x y : Operand) (ho : op.op = .buildSlice 22 2 #[(0, x), (1, y)]) (f g : Ft) (hx : a.eval x = f.v) (hy : a.eval y = g.v) (hf : FtOk w f) (hgo : FtOk w g)
    (hK : ∀ v' w', FSl w' v' [f, g] → Fr w w' → K (a.put op.dst v') w') : if Region.wanted op (yielded ops a.tmps) = true then Oper.wp Try.prog op a w K Q else E := by
  have h1 : ∀ e ∈ [f, g], FtOk w e := by
    intro e he
    simp only [List.mem_cons, List.not_mem_nil, or_false] at he
    rcases he with rfl | rfl
    · exact hf
    · exact hgo
  exact step_build_fact2 hg x y ho f g hx hy h1 (hK _ _ (FSl.own (rowF w [f, g] h1 (by show 2 ≤ 1000; decide)) rfl (fun e he => (h1 e he).fr (Fr.alloc _ _))) (Fr.alloc w _))
/-- What an operation yields in whatever world, is taken first. -/
theorem any_take {md : Region.Mode} {R : World → Prop} {oi : Oper} {fuel : Nat} {listed : Array Bool} (i : Nat) (v : Value) (hi : ops[i]? = some oi) (hg : oi.guard = none) (hs : Region.noSelect ops = true) (hf : Region.free md ops listed i = true) (hr : (Region.ready md ops listed).contains i = true)
    (hQ : ∀ c a w, Q (.panic c) (a.put oi.dst v) w → Q (.panic c) a w) (hrun : ∀ w, (execOp a.eval oi).run Try.prog w = .ok (.value v) w) (hR : R w) (h : wpAnyH Try.prog md ops Q R fuel (listed.setIfInBounds i true) (a.put oi.dst v) w) : wpAnyH Try.prog md ops Q R (fuel + 1) listed a w :=
  wpAnyH_take hi hs hf hr hQ (.inl ⟨by simp [Region.wanted, hg], fun w _ => hrun w⟩) hR h
theorem run_add {oi : Oper} (x : Operand) (c z r : Int) (ho : oi.op = .binOp .add 3 x (.const (.int .i64 c)) 3) (hx : a.eval x = .int .i64 z) (hw : IntKind.i64.wrap (z + c) = r) (w : World) : (execOp a.eval oi).run Try.prog w = .ok (.value (.int .i64 r)) w := by
  unfold execOp
  simp only [ho, hx]
  have h1 : a.eval (.const (.int .i64 c)) = .int .i64 c := rfl
  rw [h1]
  go_simp
theorem run_build_op4 {oi : Oper} (k nd : Int) (x0 x1 x5 x6 : Operand) (n : Txt) (sa : Option Addr) (sn sc : Nat) (ks : List Int) (ho : oi.op = .build 39 #[(0, x0), (1, x1), (5, x5), (6, x6)]) (h0 : a.eval x0 = .int .i64 k) (h1 : a.eval x1 = .string (S n)) (h5 : a.eval x5 = .slice sa sn sc) (h6 : a.eval x6 = .int .i64 nd) (w : World) :
    (execOp a.eval oi).run Try.prog w = .ok (.value (mkF k n [] ks (.slice sa sn sc) nd 0).v) w := by
  have h := run_build4 w k nd n sa sn sc ks
  unfold execOp
  simp only [ho, List.map_toArray, List.map_cons, List.map_nil, h0, h1, h5, h6, Sem.run_bind, h, Result.andThen_ok]
  rfl
theorem run_build_op5 {oi : Oper} (k nd til : Int) (x0 x1 x5 x6 x7 : Operand) (n : Txt) (sa : Option Addr) (sn sc : Nat) (ks : List Int) (ho : oi.op = .build 39 #[(0, x0), (1, x1), (5, x5), (6, x6), (7, x7)]) (h0 : a.eval x0 = .int .i64 k) (h1 : a.eval x1 = .string (S n)) (h5 : a.eval x5 = .slice sa sn sc) (h6 : a.eval x6 = .int .i64 nd) (h7 : a.eval x7 = .int .i64 til) (w : World) :
    (execOp a.eval oi).run Try.prog w = .ok (.value (mkF k n [] ks (.slice sa sn sc) nd til).v) w := by
  have h := run_build5 w k nd til n sa sn sc ks
  unfold execOp
  simp only [ho, List.map_toArray, List.map_cons, List.map_nil, h0, h1, h5, h6, h7, Sem.run_bind, h, Result.andThen_ok]
  rfl
end
end Go.Proofs.Ytddeblcoglhdnaa
