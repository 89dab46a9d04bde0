/-
  Rows of facts and of slices: built, appended; Few.
-/
import Derived.Test.YtddeblcoglhdnaaRf
import Derived.Great.BuildSlice
namespace Go.Proofs.Ytddeblcoglhdnaa
open Go.RowKit Mb Go.BigFrame

/-- The cells of a list of facts. -/
def fcs (l : List Ft) : List Value := l.flatMap (·.cs)
theorem fcs_cons (f : Ft) (l : List Ft) : fcs (f :: l) = f.cs ++ fcs l := by simp [fcs]
theorem fcs_app (l m : List Ft) : fcs (l ++ m) = fcs l ++ fcs m := by simp [fcs]
theorem fcs_len {l : List Ft} (h : ∀ f ∈ l, f.cs.length = 29) : (fcs l).length = l.length * 29 := by
  induction l with
  | nil => rfl
  | cons f l ih =>
    rw [fcs_cons, List.length_append, ih (fun g hg => h g (by simp [hg])), h f (by simp)]
    simp only [List.length_cons]; omega
theorem fcs_get {l : List Ft} (h : ∀ f ∈ l, f.cs.length = 29) (i : Nat) (hi : i < l.length) (j : Nat) (hj : j < 29) : (fcs l)[i * 29 + j]? = l[i].cs[j]? := by
  induction l generalizing i with
  | nil => simp at hi
  | cons f l ih =>
    have hf := h f (by simp)
    rw [fcs_cons]
    cases i with
    | zero =>
      rw [List.getElem?_append_left (by omega)]
      simp
    | succ i =>
      rw [List.getElem?_append_right (by omega), hf, show (i + 1) * 29 + j - 29 = i * 29 + j by omega]
      simpa using ih (fun g hg => h g (by simp [hg])) i (by simpa using hi)
theorem fcs_one {w : World} {l : List Ft} (h : ∀ f ∈ l, FtOk w f) : ∀ v ∈ fcs l, v.oneCell' = true := by
  intro v hv
  obtain ⟨f, hf, hv2⟩ := List.mem_flatMap.1 hv
  exact (h f hf).one v hv2
/-- A row of facts is a slice of facts. -/
theorem FSl.own {B n : Nat} {w : World} {v : Value} {l : List Ft} (h : w.ownsRow B 39 29 v n (fcs l)) (hn : n = l.length) (hok : ∀ f ∈ l, FtOk w f) : FSl w v l := by
  have h29 : ∀ f ∈ l, f.cs.length = 29 := fun f hf => (hok f hf).len
  rcases h.2 with ⟨rfl, hx⟩ | ⟨g, cap, cur, rfl, hB, hg, hc, _, hs, ht⟩
  · subst hx
    have : l = [] := List.length_eq_zero_iff.1 hn.symm
    exact .inl ⟨this, none, 0, rfl⟩
  · subst hn
    refine .inr ⟨g, 0, cap, rfl, fun i hi => ⟨hok _ (List.getElem_mem hi), fun j u hu => ?_⟩, hc⟩
    have hj : j < 29 := by have := (List.getElem?_eq_some_iff.1 hu).1; rwa [h29 _ (List.getElem_mem hi)] at this
    rw [Nat.zero_add, Lib.cell_of_heap hg]
    have h1 := fcs_get h29 i hi j hj
    rw [hu, ← ht, List.getElem?_take, if_pos (by omega)] at h1
    simpa using h1
theorem FSl.oks {w : World} {v : Value} {l : List Ft} (h : FSl w v l) : ∀ f ∈ l, FtOk w f := by
  intro f hf
  rcases h with ⟨rfl, _⟩ | ⟨b, o, c, _, hc, _⟩
  · simp at hf
  · obtain ⟨i, hi, rfl⟩ := List.getElem_of_mem hf
    exact (hc i hi).ok
theorem FSl.src {w : World} {v : Value} {l : List Ft} (h : FSl w v l) : Src w v l.length (fcs l) := by
  have hok := h.oks
  have h29 : ∀ f ∈ l, f.cs.length = 29 := fun f hf => (hok f hf).len
  rcases h with ⟨rfl, a, c, rfl⟩ | ⟨g, o, c, rfl, hc, _⟩
  · cases a with
    | none => exact .inl ⟨rfl, rfl, c, rfl⟩
    | some ad => exact .inr ⟨ad, c, rfl, fun j u hu => by simp [fcs] at hu⟩
  · refine .inr ⟨_, c, rfl, fun k u hu => ?_⟩
    have hk : k < l.length * 29 := by have := (List.getElem?_eq_some_iff.1 hu).1; rwa [fcs_len h29] at this
    have hi : k / 29 < l.length := by omega
    have h1 := fcs_get h29 (k / 29) hi (k % 29) (by omega)
    rw [show k / 29 * 29 + k % 29 = k by omega, hu] at h1
    have h2 := (hc (k / 29) hi).at' (k % 29) u h1.symm
    rw [Addr.add_mid, ← h2]
    congr 2
    omega
section
variable {ops : Array Oper} {rest : List Oper} {op : Oper} {a : Act} {w : World} {Q : Exit → Act → World → Prop} {K : Act → World → Prop} {E : Prop}
/-- A slice of facts is appended to a row of facts. -/
theorem wp_append_facts (s x : Operand) (hop : op.op = .call { callee := .builtin .append, args := #[s, x], argTypes := #[22, 22] }) (base : Nat)
    (v : Value) (n : Nat) (xs : List Ft) (hs : a.eval s = v) (hrow : w.ownsRow base 39 29 v n (fcs xs)) (xv : Value) (l : List Ft) (hx : a.eval x = xv) (hsl : FSl w xv l)
    (b2 : (n + l.length) * 408 ≤ 140737488355328) (hb : base ≤ w.heap.size) (hK : ∀ v' w', w'.ownsRow base 39 29 v' (n + l.length) (fcs (xs ++ l)) → w.grownBy w' v.ownBlock → K (a.put op.dst v') w') :
    Oper.wp Try.prog op a w K Q := by
  obtain ⟨i0, hi, hz0, hz1, hz2⟩ := info_parts infoF
  have hok := hsl.oks
  exact wp_append_src s x 22 hop base 39 i0 _ 29 408 Try.underlying22 hi hz0 hz1 hz2 rfl (by decide) v n (fcs xs) hs hrow xv l.length (fcs l) hx hsl.src (fcs_len fun f hf => (hok f hf).len) (fcs_one hok) (by unfold maxLen; omega) b2 hb
    (fun v' w' r1 r2 => hK v' w' (by rw [fcs_app]; exact r1) r2)
theorem wpList_append_facts (hg : op.guard = none) (s x : Operand) (hop : op.op = .call { callee := .builtin .append, args := #[s, x], argTypes := #[22, 22] }) (base : Nat)
    (v : Value) (n : Nat) (xs : List Ft) (hs : a.eval s = v) (hrow : w.ownsRow base 39 29 v n (fcs xs)) (xv : Value) (l : List Ft) (hx : a.eval x = xv) (hsl : FSl w xv l)
    (b2 : (n + l.length) * 408 ≤ 140737488355328) (hb : base ≤ w.heap.size) (hK : ∀ v' w', w'.ownsRow base 39 29 v' (n + l.length) (fcs (xs ++ l)) → w.grownBy w' v.ownBlock → wpList Try.prog ops Q rest (a.put op.dst v') w') :
    wpList Try.prog ops Q (op :: rest) a w :=
  wpList_plain hg fun _ hK' => wp_append_facts s x hop base v n xs hs hrow xv l hx hsl b2 hb fun v' w' r1 r2 => hK' _ _ (hK v' w' r1 r2)
theorem step_append_facts (hg : op.guard = none) (s x : Operand) (hop : op.op = .call { callee := .builtin .append, args := #[s, x], argTypes := #[22, 22] }) (base : Nat)
    (v : Value) (n : Nat) (xs : List Ft) (hs : a.eval s = v) (hrow : w.ownsRow base 39 29 v n (fcs xs)) (xv : Value) (l : List Ft) (hx : a.eval x = xv) (hsl : FSl w xv l)
    (b2 : (n + l.length) * 408 ≤ 140737488355328) (hb : base ≤ w.heap.size) (hK : ∀ v' w', w'.ownsRow base 39 29 v' (n + l.length) (fcs (xs ++ l)) → w.grownBy w' v.ownBlock → K (a.put op.dst v') w') :
    if Region.wanted op (yielded ops a.tmps) = true then Oper.wp Try.prog op a w K Q else E := by
  have hw : Region.wanted op (yielded ops a.tmps) = true := by simp [Region.wanted, hg]
  rw [if_pos hw]
  exact wp_append_facts s x hop base v n xs hs hrow xv l hx hsl b2 hb hK
end
theorem fill_facts {w : World} (fs : List Ft) (hok : ∀ f ∈ fs, FtOk w f) (z : Array Value) (hz : z.size = fs.length * 29) :
    Instr.fill (fun i => some (i * 29, 29)) z (((fs.map Ft.v).zipIdx 0).map fun x => (x.2, x.1)) = some (fcs fs).toArray := by
  have h29 : ∀ f ∈ fs, f.cs.length = 29 := fun f hf => (hok f hf).len
  obtain ⟨r, hr, hsz, hk⟩ := Great.fill_dense (s := 29) (by decide) (fs.map Ft.v) 0 z (fun v hv => by
    obtain ⟨f, hf, rfl⟩ := List.mem_map.1 hv
    show f.cs.toArray.size = 29
    simpa using h29 f hf) (by rw [List.length_map]; omega)
  rw [hr]
  congr 1
  apply Array.ext_getElem?
  intro k
  rw [hk k, List.length_map, Nat.zero_mul, Nat.zero_add]
  rcases Nat.lt_or_ge k (fs.length * 29) with h | h
  · rw [if_pos ⟨Nat.zero_le _, h⟩]
    have hi : k / 29 < fs.length := by omega
    have h1 := fcs_get h29 (k / 29) hi (k % 29) (by omega)
    rw [show k / 29 * 29 + k % 29 = k by omega] at h1
    rw [Nat.sub_zero, List.getElem?_map, List.getElem?_eq_getElem hi]
    simp only [Option.map_some, Option.bind_some]
    show fs[k / 29].cs.toArray[k % 29]? = _
    simp [h1]
  · rw [if_neg (by omega)]
    rw [Array.getElem?_eq_none (by omega)]
    have := fcs_len h29
    simp; omega
section
variable {ops : Array Oper} {rest : List Oper} {op : Oper} {a : Act} {w : World} {Q : Exit → Act → World → Prop} {K : Act → World → Prop} {E : Prop}
theorem wp_build_facts (n : Nat) (parts : Array (Nat × Operand)) (ho : op.op = .buildSlice 22 n parts) (fs : List Ft) (hn : n = fs.length) (hp : (parts.map fun (i, x) => (i, a.eval x)).toList = ((fs.map Ft.v).zipIdx 0).map fun x => (x.2, x.1)) (hok : ∀ f ∈ fs, FtOk w f)
    (h0 : 0 < n) (h1 : n ≤ 1000) (h : K (a.put op.dst (.slice (some ⟨w.heap.size, 0, none⟩) n n)) (w.alloc (.cells (fcs fs).toArray 39))) : Oper.wp Try.prog op a w K Q := by
  obtain ⟨i0, hi, hz0, hz1, hz2⟩ := info_parts infoF
  refine wp_buildSlice 22 39 n parts ho (fcs fs).toArray i0 _ Try.underlying22 hi hz0 (by rw [hz1]; omega) (by rw [hz1]; omega) ?_ h
  rw [hp, hz1]
  exact fill_facts fs hok _ (by simp [hn])
theorem wpList_build_facts (hg : op.guard = none) (n : Nat) (parts : Array (Nat × Operand)) (ho : op.op = .buildSlice 22 n parts) (fs : List Ft) (hn : n = fs.length) (hp : (parts.map fun (i, x) => (i, a.eval x)).toList = ((fs.map Ft.v).zipIdx 0).map fun x => (x.2, x.1)) (hok : ∀ f ∈ fs, FtOk w f)
    (h0 : 0 < n) (h1 : n ≤ 1000) (h : wpList Try.prog ops Q rest (a.put op.dst (.slice (some ⟨w.heap.size, 0, none⟩) n n)) (w.alloc (.cells (fcs fs).toArray 39))) : wpList Try.prog ops Q (op :: rest) a w :=
  wpList_plain hg fun _ hK => wp_build_facts n parts ho fs hn hp hok h0 h1 (hK _ _ h)
theorem step_build_facts (hg : op.guard = none) (n : Nat) (parts : Array (Nat × Operand)) (ho : op.op = .buildSlice 22 n parts) (fs : List Ft) (hn : n = fs.length) (hp : (parts.map fun (i, x) => (i, a.eval x)).toList = ((fs.map Ft.v).zipIdx 0).map fun x => (x.2, x.1)) (hok : ∀ f ∈ fs, FtOk w f)
    (h0 : 0 < n) (h1 : n ≤ 1000) (h : K (a.put op.dst (.slice (some ⟨w.heap.size, 0, none⟩) n n)) (w.alloc (.cells (fcs fs).toArray 39))) :
    if Region.wanted op (yielded ops a.tmps) = true then Oper.wp Try.prog op a w K Q else E := by
  have hw : Region.wanted op (yielded ops a.tmps) = true := by simp [Region.wanted, hg]
  rw [if_pos hw]
  exact wp_build_facts n parts ho fs hn hp hok h0 h1 h
end
/-- A row of facts that has just been made. -/
theorem rowF (w : World) (fs : List Ft) (hok : ∀ f ∈ fs, FtOk w f) (h1 : fs.length ≤ 1000) : (w.alloc (.cells (fcs fs).toArray 39)).ownsRow w.heap.size 39 29 (.slice (some ⟨w.heap.size, 0, none⟩) fs.length fs.length) fs.length (fcs fs) := by
  have := World.ownsRow_lit (base := w.heap.size) (e := 39) (size := 29) w (fcs fs).toArray fs.length (Nat.le_refl _) (by unfold maxLen; omega) (by simpa using fcs_len fun f hf => (hok f hf).len)
  simpa using this
theorem row0F (w : World) : (w.alloc (.cells #[] 39)).ownsRow w.heap.size 39 29 (.slice (some ⟨w.heap.size, 0, none⟩) 0 0) 0 (fcs []) := row0 w 39 29

/-! ### Few -/
def FewP (l : List Ft) (sg : List (List Int)) (n : Nat) (w : World) (e : Ending) (w' : World) : Prop :=
  ∃ b, e = .returned (.bool b) ∧ (b = true → l.length ≤ n ∧ sg.length ≤ n ∧ (∀ f ∈ l, f.keys.length ≤ 20) ∧ ∀ q ∈ sg, q.length ≤ 20) ∧ w' = w
set_option maxRecDepth 100000 in
set_option maxHeartbeats 2000000 in
theorem few_any (v s : Value) (l : List Ft) (sg : List (List Int)) (n : Nat) (hn : n ≤ 100) (w : World) (h : FSl w v l) (hs : SsSl w s sg) :
    Calls Try.prog 9 #[v, s, .int .i64 n] w (FewP l sg n w) := by
  obtain ⟨av, ac, rfl⟩ := h.len
  have HV := Lib.hid h
  obtain ⟨sv, sc, rfl⟩ := hs.len
  have HS := Lib.hid hs
  clear h hs
  go_enter Try.func9, Try.ntmps9
  go_wp2_with fail
  go_loopw [7] (fun vi wr => ∃ k : Nat, k ≤ l.length ∧ k ≤ n + 1 ∧ vi = .int .i64 k ∧ Hid (∀ (j : Nat) (hj : j < l.length), j < k → l[j].keys.length ≤ 20) ∧ wr = w) (fun vi _ => l.length - (intOf vi).toNat)
  case atStart => exact ⟨0, Nat.zero_le _, by omega, rfl, Lib.hid (fun j hj h => by omega), rfl⟩
  case round =>
    obtain ⟨k, hk, hk2, rfl, hP, rfl⟩ := hrel
    by_cases hc : k < l.length ∧ k ≤ n
    · obtain ⟨hlt, hlen⟩ := hc
      obtain ⟨g, o, rfl, hat⟩ := HV.out.at k hlt
      obtain ⟨kv, c24, hkv⟩ := hat.keys
      obtain ⟨ka, kc, rfl⟩ := hkv.len
      have hd1 : decide (k ≤ n) = true := decide_eq_true (by omega)
      by_cases hb : 20 < l[k].keys.length
      · have hd : decide ((20 : Int) < (l[k].keys.length : Int)) = true := decide_eq_true (by omega)
        clear hat hkv HV hb
        generalize l[k].keys.length = m at *
        go_wp2_with fail
        go_ret
        exact ⟨false, rfl, (fun h => by cases h), rfl⟩
      · have hd : decide ((20 : Int) < (l[k].keys.length : Int)) = false := decide_eq_false (by omega)
        have HP := Lib.hid (show ∀ (j : Nat) (hj : j < l.length), j < k + 1 → l[j].keys.length ≤ 20 from fun j hj hjk => by
          rcases Nat.lt_or_ge j k with h1 | h1
          · exact hP.out j hj h1
          · obtain rfl : j = k := by omega
            omega)
        clear hat hkv HV hb
        generalize l[k].keys.length = m at *
        go_wp2_with fail
        go_roundw
        case rel => exact ⟨k + 1, by omega, by omega, by go_num, HP, trivial⟩
        case measure => simp [intOf]; omega
    · have HQ : Hid (l.length ≤ n → ∀ f ∈ l, f.keys.length ≤ 20) := Lib.hid fun hln f hf => by
        obtain ⟨i, hi, rfl⟩ := List.getElem_of_mem hf
        exact hP.out i hi (by omega)
      clear hP
      have hcond : (k < l.length ∧ decide (k ≤ n) = false) ∨ ¬ k < l.length := by
        by_cases h1 : k < l.length
        · exact .inl ⟨h1, decide_eq_false (by omega)⟩
        · exact .inr h1
      clear hc HV
      rcases hcond with ⟨hlt, hd1⟩ | hlt
      all_goals
        go_wp2_with fail
        go_loopw [8] (fun vi wx => ∃ k : Nat, k ≤ sg.length ∧ k ≤ n + 1 ∧ vi = .int .i64 k ∧ Hid (∀ (j : Nat) (hj : j < sg.length), j < k → sg[j].length ≤ 20) ∧ wx = wr) (fun vi _ => sg.length - (intOf vi).toNat)
        case atStart => exact ⟨0, Nat.zero_le _, by omega, rfl, Lib.hid (fun j hj h => by omega), rfl⟩
        case round =>
          obtain ⟨k2, hk3, hk4, rfl, hP, rfl⟩ := hrel
          by_cases hc : k2 < sg.length ∧ k2 ≤ n
          · obtain ⟨hlt2, hlen2⟩ := hc
            obtain ⟨g, o, kv, rfl, c1, hkv⟩ := HS.out.at k2 hlt2
            obtain ⟨ka, kc, rfl⟩ := hkv.len
            have hd2 : decide (k2 ≤ n) = true := decide_eq_true (by omega)
            by_cases hb : 20 < sg[k2].length
            · have hd : decide ((20 : Int) < (sg[k2].length : Int)) = true := decide_eq_true (by omega)
              clear hkv HS hb
              generalize sg[k2].length = m at *
              go_wp2_with fail
              go_ret
              exact ⟨false, rfl, (fun h => by cases h), rfl⟩
            · have hd : decide ((20 : Int) < (sg[k2].length : Int)) = false := decide_eq_false (by omega)
              have HP := Lib.hid (show ∀ (j : Nat) (hj : j < sg.length), j < k2 + 1 → sg[j].length ≤ 20 from fun j hj hjk => by
                rcases Nat.lt_or_ge j k2 with h1 | h1
                · exact hP.out j hj h1
                · obtain rfl : j = k2 := by omega
                  omega)
              clear hkv HS hb
              generalize sg[k2].length = m at *
              go_wp2_with fail
              go_roundw
              case rel => exact ⟨k2 + 1, by omega, by omega, by go_num, HP, trivial⟩
              case measure => simp [intOf]; omega
          · have HQ2 : Hid (sg.length ≤ n → ∀ q ∈ sg, q.length ≤ 20) := Lib.hid fun hln q hq => by
              obtain ⟨i, hi, rfl⟩ := List.getElem_of_mem hq
              exact hP.out i hi (by omega)
            clear hP
            have hcond : (k2 < sg.length ∧ decide (k2 ≤ n) = false) ∨ ¬ k2 < sg.length := by
              by_cases h1 : k2 < sg.length
              · exact .inl ⟨h1, decide_eq_false (by omega)⟩
              · exact .inr h1
            clear hc HS
            by_cases hf1 : l.length ≤ n
            · have df1 : decide (l.length ≤ n) = true := decide_eq_true (by omega)
              by_cases hf2 : sg.length ≤ n
              · have df2 : decide (sg.length ≤ n) = true := decide_eq_true (by omega)
                have HR := Lib.hid (show l.length ≤ n ∧ sg.length ≤ n ∧ (∀ f ∈ l, f.keys.length ≤ 20) ∧ ∀ q ∈ sg, q.length ≤ 20 from ⟨hf1, hf2, HQ.out hf1, HQ2.out hf2⟩)
                clear hf1 hf2
                rcases hcond with ⟨hlt2, hd2⟩ | hlt2
                all_goals
                  go_wp2_with fail
                  go_ret
                  exact ⟨true, rfl, (fun _ => HR.out), rfl⟩
              · have df2 : decide (sg.length ≤ n) = false := decide_eq_false (by omega)
                clear hf1 hf2
                rcases hcond with ⟨hlt2, hd2⟩ | hlt2
                all_goals
                  go_wp2_with fail
                  go_ret
                  exact ⟨false, rfl, (fun h => by cases h), rfl⟩
            · have df1 : decide (l.length ≤ n) = false := decide_eq_false (by omega)
              clear hf1
              rcases hcond with ⟨hlt2, hd2⟩ | hlt2
              all_goals
                go_wp2_with fail
                go_ret
                exact ⟨false, rfl, (fun h => by cases h), rfl⟩

/-! ### Rows of slices -/
theorem SsSl.vals {w : World} {v : Value} {l : List (List Int)} (h : SsSl w v l) : ∃ vs : List Value, vs.length = l.length ∧ (∀ (i : Nat) (h1 : i < vs.length) (h2 : i < l.length), Sl w vs[i] l[i]) ∧ Src w v l.length vs := by
  rcases h with ⟨rfl, a, c, rfl⟩ | ⟨g, o, c, rfl, hc, _⟩
  · refine ⟨[], rfl, fun i h1 _ => by simp at h1, ?_⟩
    cases a with
    | none => exact .inl ⟨rfl, rfl, c, rfl⟩
    | some ad => exact .inr ⟨ad, c, rfl, fun j u hu => by simp at hu⟩
  · have hch : ∃ f : Fin l.length → Value, ∀ k : Fin l.length, w.cell? ⟨g, o + k.val, none⟩ = some (f k) ∧ Sl w (f k) l[k.val] := ⟨fun k => (hc k.val k.isLt).choose, fun k => (hc k.val k.isLt).choose_spec⟩
    obtain ⟨f, hf⟩ := hch
    refine ⟨List.ofFn f, by simp, fun i h1 h2 => by rw [List.getElem_ofFn]; exact (hf ⟨i, h2⟩).2, .inr ⟨_, c, rfl, fun j u hu => ?_⟩⟩
    have hj : j < l.length := by have := (List.getElem?_eq_some_iff.1 hu).1; simpa using this
    rw [Addr.add_mid, (hf ⟨j, hj⟩).1, ← hu]
    simp [hj]
theorem SsSl.own {B n : Nat} {w : World} {v : Value} {vs : List Value} {l : List (List Int)} (h : w.ownsRow B 23 1 v n vs) (hl : vs.length = l.length) (hv : ∀ (i : Nat) (h1 : i < vs.length) (h2 : i < l.length), Sl w vs[i] l[i]) : SsSl w v l := by
  have hn := h.1
  rcases h.2 with ⟨rfl, hx⟩ | ⟨g, cap, cur, rfl, hB, hg, hc, _, hs, ht⟩
  · exact .inl ⟨List.length_eq_zero_iff.1 (by omega), none, 0, rfl⟩
  · have e : n = l.length := by omega
    subst e
    refine .inr ⟨g, 0, cap, rfl, fun i hi => ⟨vs[i]'(by omega), ?_, hv i (by omega) hi⟩, hc⟩
    rw [Nat.zero_add, Lib.cell_of_heap hg]
    have h1 : vs[i]? = some (vs[i]'(by omega)) := List.getElem?_eq_getElem (by omega)
    have h2 : (cur.toList.take (l.length * 1))[i]? = vs[i]? := by rw [ht]
    rw [List.getElem?_take, if_pos (by omega), h1] at h2
    simpa using h2
theorem infoSl : (Try.prog.info? 23).map (fun i => (i.zero, i.size, i.bytes)) = some (some (.slice none 0 0), 1, 24) := by kernel_rfl
section
variable {ops : Array Oper} {rest : List Oper} {op : Oper} {a : Act} {w : World} {Q : Exit → Act → World → Prop}
/-- A slice of slices is appended to a row of slices. -/
theorem wpList_append_slices (hg : op.guard = none) (s x : Operand) (hop : op.op = .call { callee := .builtin .append, args := #[s, x], argTypes := #[24, 24] }) (base : Nat)
    (v : Value) (n : Nat) (vs : List Value) (ls : List (List Int)) (hs : a.eval s = v) (hrow : w.ownsRow base 23 1 v n vs) (hvl : vs.length = ls.length) (hvs : ∀ (i : Nat) (h1 : i < vs.length) (h2 : i < ls.length), Sl w vs[i] ls[i])
    (xv : Value) (l : List (List Int)) (hx : a.eval x = xv) (hsl : SsSl w xv l)
    (b2 : (n + l.length) * 24 ≤ 140737488355328) (hb : base ≤ w.heap.size) (hK : ∀ v' w', w.grownBy w' v.ownBlock → (Fr w w' → SsSl w' v' (ls ++ l)) → wpList Try.prog ops Q rest (a.put op.dst v') w') :
    wpList Try.prog ops Q (op :: rest) a w := by
  obtain ⟨i0, hi, hz0, hz1, hz2⟩ := info_parts infoSl
  obtain ⟨ws, hwl, hws, hsrc⟩ := hsl.vals
  refine wpList_plain hg fun _ hK' => wp_append_src s x 24 hop base 23 i0 (.slice none 0 0) 1 24 Try.underlying24 hi hz0 hz1 hz2 rfl (by decide) v n vs hs hrow xv l.length ws hx hsrc (by omega) (fun u hu => ?_) (by unfold maxLen; omega) b2 hb
    (fun v' w' r1 r2 => hK' _ _ (hK v' w' r2 fun hf => SsSl.own r1 (by simp [hvl, hwl]) (fun i h1 h2 => ?_)))
  · obtain ⟨i, hi, rfl⟩ := List.getElem_of_mem hu
    exact (hws i hi (by omega)).one
  · rcases Nat.lt_or_ge i vs.length with h | h
    · rw [List.getElem_append_left h, List.getElem_append_left (by omega)]
      exact (hvs i h (by omega)).fr hf
    · rw [List.getElem_append_right h, List.getElem_append_right (by omega)]
      have := (hws (i - vs.length) (by simp at h1; omega) (by simp at h2; omega)).fr hf
      simpa only [hvl] using this
end
end Go.Proofs.Ytddeblcoglhdnaa
