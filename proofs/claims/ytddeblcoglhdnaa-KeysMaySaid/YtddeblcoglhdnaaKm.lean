/-
  Facts as they are read, standings of a name, who signs, what may be added, the chain: plain mathematics.
-/
import Derived.WalkKit
namespace Go.Proofs.Ytddeblcoglhdnaa

abbrev Txt := List UInt8
/-- What is read of a fact, and its cells. -/
structure Ft where
  kind : Int
  name : Txt
  rname : Txt
  aname : Txt
  keys : List Int
  need : Int
  til : Int
  cs : List Value

/-- The name of a fact. -/
def nm (f : Ft) : Txt := if f.kind = 0 then f.rname else if f.kind = 3 then f.aname else f.name
/-- Does a fact make an owner of a name? -/
def isO (f : Ft) (n : Txt) : Bool := (decide (f.kind = 5) || decide (f.kind = 4)) && (f.name == n)
abbrev St := Option Ft × Option Ft
/-- The standing after one more fact. -/
def aft (s : St) (f : Ft) : St := if f.kind = 5 then (some f, none) else if f.kind = 4 then (some f, s.2) else if f.kind = 6 then (s.1, some f) else s
def stp (n : Txt) (s : St) (f : Ft) : St := if nm f = n then aft s f else s
/-- The standing of a name after some facts. -/
def std (l : List Ft) (n : Txt) : St := l.foldl (stp n) (none, none)
def own (l : List Ft) (n : Txt) : Option Ft := (std l n).1
def dlg (l : List Ft) (n : Txt) : Option Ft := (std l n).2

theorem std_snoc (l : List Ft) (f : Ft) (n : Txt) : std (l ++ [f]) n = stp n (std l n) f := by simp [std]
theorem take_snoc {α : Type} {l : List α} {k : Nat} (h : k < l.length) : l.take (k + 1) = l.take k ++ [l[k]] := by rw [List.take_succ_eq_append_getElem h]
theorem std_succ {l : List Ft} {k : Nat} (h : k < l.length) (n : Txt) : std (l.take (k + 1)) n = stp n (std (l.take k) n) l[k] := by
  rw [take_snoc h, std_snoc]
theorem nm_of {f : Ft} (h : f.kind ≠ 0) (h3 : f.kind ≠ 3) : nm f = f.name := by unfold nm; rw [if_neg h, if_neg h3]
theorem own_snoc (l : List Ft) (f : Ft) (n : Txt) : own (l ++ [f]) n = if isO f n = true then some f else own l n := by
  unfold own isO
  rw [std_snoc]
  unfold stp aft
  by_cases h5 : f.kind = 5
  · have hn : nm f = f.name := nm_of (by omega) (by omega)
    rw [hn]
    by_cases he : f.name = n
    · simp [h5, he]
    · simp [h5, he]
  · by_cases h4 : f.kind = 4
    · have hn : nm f = f.name := nm_of (by omega) (by omega)
      rw [hn]
      by_cases he : f.name = n
      · simp [h4, he]
      · simp [h4, he]
    · simp only [h5, h4, decide_false, Bool.or_self, Bool.false_and, if_false]
      split
      · split <;> rfl
      · rfl
theorem dlg_snoc (l : List Ft) (f : Ft) (n : Txt) : dlg (l ++ [f]) n = if f.kind = 5 ∧ f.name = n then none else if f.kind = 6 ∧ f.name = n then some f else dlg l n := by
  unfold dlg
  rw [std_snoc]
  unfold stp aft
  by_cases h5 : f.kind = 5
  · have hn : nm f = f.name := nm_of (by omega) (by omega)
    rw [hn]
    by_cases he : f.name = n
    · simp [h5, he]
    · simp [h5, he]
  · by_cases h4 : f.kind = 4
    · have hn : nm f = f.name := nm_of (by omega) (by omega)
      rw [hn]
      by_cases he : f.name = n
      · simp [h4, he]
      · simp [h4, he]
    · by_cases h6 : f.kind = 6
      · have hn : nm f = f.name := nm_of (by omega) (by omega)
        rw [hn]
        by_cases he : f.name = n
        · simp [h6, he]
        · simp [h6, he]
      · simp only [h5, h4, h6, false_and, if_false]
        split <;> rfl
theorem own_succ {l : List Ft} {k : Nat} (h : k < l.length) (n : Txt) : own (l.take (k + 1)) n = if isO l[k] n = true then some l[k] else own (l.take k) n := by
  rw [take_snoc h, own_snoc]
theorem dlg_succ {l : List Ft} {k : Nat} (h : k < l.length) (n : Txt) : dlg (l.take (k + 1)) n = if l[k].kind = 5 ∧ l[k].name = n then none else if l[k].kind = 6 ∧ l[k].name = n then some l[k] else dlg (l.take k) n := by
  rw [take_snoc h, dlg_snoc]

/-! ### Different elements -/
def dstF (ks : List Int) (acc : List Int) (x : Int) : List Int := if x ∈ ks ∧ x ∉ acc then acc ++ [x] else acc
def dst (ks q : List Int) : List Int := q.foldl (dstF ks) []
/-- How many different elements of q are among ks. -/
def cnt (ks q : List Int) : Nat := (dst ks q).length
theorem dst_snoc (ks q : List Int) (x : Int) : dst ks (q ++ [x]) = dstF ks (dst ks q) x := by simp [dst]
theorem rev_ind {α : Type} {P : List α → Prop} (h0 : P []) (hs : ∀ l a, P l → P (l ++ [a])) (l : List α) : P l := by
  suffices h : ∀ n (l : List α), l.length = n → P l from h _ l rfl
  intro n
  induction n with
  | zero => intro l hl; rw [List.length_eq_zero_iff.1 hl]; exact h0
  | succ n ih =>
    intro l hl
    have hne : l ≠ [] := by rintro rfl; simp at hl
    have he := List.dropLast_concat_getLast hne
    rw [← he]
    exact hs _ _ (ih _ (by rw [List.length_dropLast, hl]; rfl))
theorem mem_dst (ks q : List Int) (x : Int) : x ∈ dst ks q ↔ x ∈ ks ∧ x ∈ q := by
  refine rev_ind (P := fun q => x ∈ dst ks q ↔ x ∈ ks ∧ x ∈ q) (by simp [dst]) (fun q a ih => ?_) q
  rw [dst_snoc]
  unfold dstF
  split
  · rename_i h
    simp only [List.mem_append, List.mem_singleton, ih]
    constructor
    · rintro (h1 | rfl)
      · exact ⟨h1.1, .inl h1.2⟩
      · exact ⟨h.1, .inr rfl⟩
    · rintro ⟨h1, h2 | rfl⟩
      · exact .inl ⟨h1, h2⟩
      · exact .inr rfl
  · rename_i h
    simp only [List.mem_append, List.mem_singleton, ih]
    constructor
    · rintro ⟨h1, h2⟩; exact ⟨h1, .inl h2⟩
    · rintro ⟨h1, h2 | rfl⟩
      · exact ⟨h1, h2⟩
      · by_cases h3 : x ∈ dst ks q
        · exact ih.1 h3
        · exact absurd ⟨h1, h3⟩ h
theorem nodup_dst (ks q : List Int) : (dst ks q).Nodup := by
  refine rev_ind (P := fun q => (dst ks q).Nodup) (by simp [dst]) (fun q a ih => ?_) q
  rw [dst_snoc]
  unfold dstF
  split
  · rename_i h
    rw [List.nodup_append]
    exact ⟨ih, by simp, fun b hb c hc => by rw [List.mem_singleton] at hc; subst hc; rintro rfl; exact h.2 hb⟩
  · exact ih
theorem nodup_le {a b : List Int} (ha : a.Nodup) (hs : ∀ x ∈ a, x ∈ b) : a.length ≤ b.length := by
  induction a generalizing b with
  | nil => simp
  | cons x a ih =>
    rw [List.nodup_cons] at ha
    have hx : x ∈ b := hs x (by simp)
    have h1 := ih (b := b.erase x) ha.2 (fun y hy => by
      have hne : y ≠ x := by rintro rfl; exact ha.1 hy
      exact (List.mem_erase_of_ne hne).2 (hs y (by simp [hy])))
    have h2 := List.length_erase_of_mem hx
    have h3 : 0 < b.length := List.length_pos_of_mem hx
    simp only [List.length_cons]
    omega
theorem cnt_le_of {ks ks' q q' : List Int} (h : ∀ x, x ∈ ks → x ∈ q → x ∈ ks' ∧ x ∈ q') : cnt ks q ≤ cnt ks' q' :=
  nodup_le (nodup_dst _ _) fun x hx => (mem_dst _ _ _).2 (h x ((mem_dst _ _ _).1 hx).1 ((mem_dst _ _ _).1 hx).2)
theorem cnt_eq_of {ks q q' : List Int} (h : ∀ x, x ∈ q ↔ x ∈ q') : cnt ks q = cnt ks q' :=
  Nat.le_antisymm (cnt_le_of fun x h1 h2 => ⟨h1, (h x).1 h2⟩) (cnt_le_of fun x h1 h2 => ⟨h1, (h x).2 h2⟩)
theorem cnt_len (ks q : List Int) : cnt ks q ≤ q.length := nodup_le (nodup_dst _ _) fun _x hx => ((mem_dst _ _ _).1 hx).2
theorem cnt_nil (ks : List Int) : cnt ks [] = 0 := rfl
theorem cnt_snoc (ks q : List Int) (x : Int) : cnt ks (q ++ [x]) = if x ∈ ks ∧ x ∉ q then cnt ks q + 1 else cnt ks q := by
  unfold cnt
  rw [dst_snoc]
  unfold dstF
  by_cases h1 : x ∈ ks
  · by_cases h2 : x ∈ q
    · rw [if_neg (fun h => h.2 ((mem_dst _ _ _).2 ⟨h1, h2⟩)), if_neg (fun h => h.2 h2)]
    · rw [if_pos ⟨h1, fun h => h2 ((mem_dst _ _ _).1 h).2⟩, if_pos ⟨h1, h2⟩]; simp
  · rw [if_neg (fun h => h1 h.1), if_neg (fun h => h1 h.1)]
theorem cnt_succ (ks : List Int) {q : List Int} {k : Nat} (h : k < q.length) : cnt ks (q.take (k + 1)) = if q[k] ∈ ks ∧ q[k] ∉ q.take k then cnt ks (q.take k) + 1 else cnt ks (q.take k) := by
  rw [take_snoc h, cnt_snoc]
theorem cnt_pos {ks q : List Int} : cnt ks q = 0 ↔ ∀ x ∈ q, x ∉ ks := by
  constructor
  · intro h x hx hk
    have : x ∈ dst ks q := (mem_dst _ _ _).2 ⟨hk, hx⟩
    have h0 := List.length_eq_zero_iff.1 h
    rw [h0] at this; simp at this
  · intro h
    unfold cnt
    rw [List.length_eq_zero_iff]
    cases hd : dst ks q with
    | nil => rfl
    | cons x r =>
      have : x ∈ dst ks q := by rw [hd]; simp
      obtain ⟨h1, h2⟩ := (mem_dst _ _ _).1 this
      exact absurd h1 (h x h2)

/-! ### What may be added -/
/-- Ascending numbers under 200. -/
def asc : Int → List Int → Bool
  | _, [] => true
  | a, k :: r => decide (a < k) && decide (k < 200) && asc k r
def isS (ks : List Int) : Bool := decide (0 < ks.length) && decide (ks.length ≤ 12) && asc (-1) ks
def rgt (f : Ft) : Bool := if f.kind = 4 ∨ f.kind = 5 ∨ f.kind = 6 then isS f.keys && decide (1 ≤ f.need) && decide (f.need ≤ f.keys.length) else decide (0 ≤ f.kind) && decide (f.kind < 8)
/-- So many of its keys sign. -/
def sgn (f : Ft) (q : List Int) : Bool := decide (f.need ≤ cnt f.keys q)
def dsg (d : Option Ft) (n : Nat) (f : Ft) (q : List Int) : Bool := match d with
  | none => false
  | some g => decide (f.kind = 0) && decide ((n : Int) ≤ g.til) && decide (1 ≤ g.need) && sgn g q
def anyR (reg q : List Int) : Bool := q.any fun x => decide (x ∈ reg)
def myE (o d : Option Ft) (n : Nat) (reg : List Int) (f : Ft) (q : List Int) : Int :=
  if rgt f = false then 1
  else if f.kind = 3 ∨ f.kind = 7 then (if anyR reg q = true then 0 else 22)
  else if o.isNone = true ∧ f.kind ≠ 5 then 24
  else if sgn (o.getD f) q = true ∨ dsg d n f q = true then 0 else 23
/-- May a fact be added? -/
def may (l : List Ft) (reg : List Int) (f : Ft) (q : List Int) : Int := myE (own l (nm f)) (dlg l (nm f)) l.length reg f q
def adR (l : List Ft) (reg : List Int) (sg : List (List Int)) : Nat → Nat → Nat × Int
  | _, 0 => (l.length, 0)
  | i, r + 1 => match l[i]? with
    | none => (l.length, 0)
    | some f => if may (l.take i) reg f (sg.getD i []) = 0 then adR l reg sg (i + 1) r else (i, may (l.take i) reg f (sg.getD i []))
/-- How many are admitted, and why the next one is not. -/
def ad (l : List Ft) (reg : List Int) (sg : List (List Int)) : Nat × Int := adR l reg sg 0 l.length
theorem adR_succ {l : List Ft} {reg : List Int} {sg : List (List Int)} {i : Nat} (h : i < l.length) :
    adR l reg sg i (l.length - i) = if may (l.take i) reg l[i] (sg.getD i []) = 0 then adR l reg sg (i + 1) (l.length - (i + 1)) else (i, may (l.take i) reg l[i] (sg.getD i [])) := by
  have e : l.length - i = (l.length - (i + 1)) + 1 := by omega
  rw [e]
  simp only [adR, List.getElem?_eq_getElem h]
theorem adR_end {l : List Ft} {reg : List Int} {sg : List (List Int)} : adR l reg sg l.length (l.length - l.length) = (l.length, 0) := by rw [Nat.sub_self]; rfl
theorem adR_le (l : List Ft) (reg : List Int) (sg : List (List Int)) : ∀ r i, i + r = l.length → i ≤ (adR l reg sg i r).1 ∧ (adR l reg sg i r).1 ≤ l.length
  | 0, i, h => ⟨by simp only [adR]; omega, Nat.le_refl _⟩
  | r + 1, i, h => by
    have hi : i < l.length := by omega
    simp only [adR, List.getElem?_eq_getElem hi]
    split
    · have := adR_le l reg sg r (i + 1) (by omega); omega
    · exact ⟨Nat.le_refl _, by omega⟩
theorem ad_le (l : List Ft) (reg : List Int) (sg : List (List Int)) : (ad l reg sg).1 ≤ l.length := (adR_le l reg sg l.length 0 (by omega)).2
theorem adR_ok (l : List Ft) (reg : List Int) (sg : List (List Int)) : ∀ r i, i + r = l.length → ∀ j (h : j < l.length), i ≤ j → j < (adR l reg sg i r).1 → may (l.take j) reg l[j] (sg.getD j []) = 0
  | 0, i, h, j, hj, h1, _ => by omega
  | r + 1, i, h, j, hj, h1, h2 => by
    have hi : i < l.length := by omega
    simp only [adR, List.getElem?_eq_getElem hi] at h2
    split at h2
    · rename_i h0
      rcases Nat.eq_or_lt_of_le h1 with rfl | h3
      · exact h0
      · exact adR_ok l reg sg r (i + 1) (by omega) j hj h3 h2
    · simp only at h2; omega
theorem ad_ok (l : List Ft) (reg : List Int) (sg : List (List Int)) (j : Nat) (h : j < l.length) (h2 : j < (ad l reg sg).1) : may (l.take j) reg l[j] (sg.getD j []) = 0 :=
  adR_ok l reg sg l.length 0 (by omega) j h (Nat.zero_le _) h2

/-! ### The chain -/
def chP (l : List Ft) (n : Txt) (i : Nat) : Bool := match l[i]? with | some f => isO f n | none => false
/-- The indices of the first k facts that made an owner of a name. -/
def chN (l : List Ft) (n : Txt) (k : Nat) : List Nat := (List.range k).filter (chP l n)
def chn (l : List Ft) (n : Txt) : List Int := (chN l n l.length).map fun i : Nat => (i : Int)
theorem chN_succ {l : List Ft} {n : Txt} {k : Nat} (h : k < l.length) : chN l n (k + 1) = if isO l[k] n = true then chN l n k ++ [k] else chN l n k := by
  unfold chN
  rw [List.range_succ, List.filter_append]
  have e : chP l n k = isO l[k] n := by unfold chP; rw [List.getElem?_eq_getElem h]
  cases hc : isO l[k] n with
  | true => simp [e, hc]
  | false => simp [e, hc]
theorem chN_len (l : List Ft) (n : Txt) (k : Nat) : (chN l n k).length ≤ k := by
  have := List.length_filter_le (chP l n) (List.range k)
  rw [List.length_range] at this
  exact this
theorem chN_lt {l : List Ft} {n : Txt} {k i : Nat} (h : i ∈ chN l n k) : i < k ∧ ∃ f, l[i]? = some f ∧ isO f n = true := by
  unfold chN at h
  rw [List.mem_filter, List.mem_range] at h
  refine ⟨h.1, ?_⟩
  have h2 := h.2
  unfold chP at h2
  cases hf : l[i]? with
  | none => rw [hf] at h2; simp at h2
  | some f => rw [hf] at h2; exact ⟨f, rfl, h2⟩
theorem chN_last (l : List Ft) (n : Txt) (k : Nat) (hk : k ≤ l.length) : (chN l n k = [] ∧ own (l.take k) n = none) ∨ ∃ (p : List Nat) (i : Nat) (hi : i < l.length), chN l n k = p ++ [i] ∧ own (l.take k) n = some l[i] := by
  induction k with
  | zero => exact .inl ⟨rfl, rfl⟩
  | succ k ih =>
    rw [chN_succ hk, own_succ hk]
    cases hc : isO l[k] n with
    | true => exact .inr ⟨chN l n k, k, hk, by simp, by simp⟩
    | false => simpa using ih (by omega)
/-- The facts of the chain. -/
def chF (l : List Ft) (n : Txt) : List Ft := l.filter fun f => isO f n
theorem own_filter (l : List Ft) (n : Txt) : own (chF l n) n = own l n := by
  refine rev_ind (P := fun l => own (chF l n) n = own l n) rfl (fun l f ih => ?_) l
  unfold chF at ih ⊢
  rw [List.filter_append, own_snoc]
  cases hc : isO f n with
  | true => simp only [List.filter_cons, hc, if_true, List.filter_nil]; rw [own_snoc, hc]; rfl
  | false => simp only [List.filter_cons, hc, Bool.false_eq_true, if_false, List.filter_nil, List.append_nil]; exact ih
theorem filter_take (l : List Ft) (n : Txt) (k : Nat) (hk : k ≤ l.length) : (chN l n k).map (fun i => l[i]?) = ((l.take k).filter fun f => isO f n).map some := by
  induction k with
  | zero => simp [chN]
  | succ k ih =>
    rw [chN_succ hk, take_snoc hk, List.filter_append]
    cases hc : isO l[k] n with
    | true => simp [ih (by omega), hc, List.getElem?_eq_getElem hk]
    | false => simp [ih (by omega), hc]
theorem chF_get (l : List Ft) (n : Txt) : (chN l n l.length).length = (chF l n).length ∧ ∀ (j : Nat) (h : j < (chN l n l.length).length) (h' : j < (chF l n).length), ∃ hi : (chN l n l.length)[j] < l.length, l[(chN l n l.length)[j]] = (chF l n)[j] := by
  have h := filter_take l n l.length (Nat.le_refl _)
  rw [List.take_length] at h
  have hlen : (chN l n l.length).length = (chF l n).length := by
    have := congrArg List.length h
    simpa [chF] using this
  refine ⟨hlen, fun j h1 h2 => ?_⟩
  have hj := congrArg (fun x => x[j]?) h
  simp only [List.getElem?_map, List.getElem?_eq_getElem h1, Option.map_some] at hj
  have h2' : j < (l.filter fun f => isO f n).length := h2
  rw [List.getElem?_eq_getElem h2'] at hj
  simp only [Option.map_some, Option.some.injEq] at hj
  obtain ⟨hi, he⟩ := List.getElem?_eq_some_iff.1 hj
  exact ⟨hi, he⟩
end Go.Proofs.Ytddeblcoglhdnaa
