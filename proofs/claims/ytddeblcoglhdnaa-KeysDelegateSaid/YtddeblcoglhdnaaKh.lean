/-
  ownerSigns, delegationSigns, ContainsFunc with the closure of may.
-/
import Derived.Test.YtddeblcoglhdnaaKg
namespace Go.Proofs.Ytddeblcoglhdnaa
open Go.RowKit Mb

set_option maxRecDepth 100000 in
set_option maxHeartbeats 1000000 in
theorem ownerSigns_any (v1 v2 u : Value) (x : Option Ft) (b o : Nat) (f : Ft) (q : List Int) (w : World) (h1 : Pt w v1 x) (h2 : ∃ p, v2 = .pointer p) (h : FtAt w b o f) (hb : FB f) (hu : Sl w u q) (hq : Ok q) :
    Calls Try.prog 39 #[.agg #[v1, v2], .pointer (some ⟨b, o, none⟩), u] w fun e w' => e = .returned (.bool (sgn (x.getD f) q)) ∧ Fr w w' := by
  obtain ⟨p2, rfl⟩ := h2
  rcases h1 with ⟨rfl, rfl⟩ | ⟨b1, o1, g, rfl, rfl, hg, hgb⟩
  · have hf := Fr.alloc w (.cells #[.pointer none, .pointer p2] 64)
    have HF := Lib.hid hf
    have c25 := hf.cell h.need
    obtain ⟨kv, c24', hkv⟩ := h.keys
    have c24 := hf.cell c24'
    have HK := Lib.hid fun w' (hw : Fr w w') => sign_any kv u f.keys q f.need w' (hkv.fr hw) hb.keys (hu.fr hw) hq
    show Calls _ _ _ _ fun e w' => e = .returned (.bool (sgn f q)) ∧ Fr w w'
    unfold sgn
    clear h hb hu hq hkv c24' hf
    go_enter Try.func39, Try.ntmps39
    go_wp2_with fail
    go_region_with (go_at_call 43; refine (HK.out _ (by exact HF.out.trans (Fr.drew _))).mono ?_; rintro e w2 ⟨rfl, hf2⟩)
    all_goals
      go_wp2_with fail
      go_ret
      exact ⟨rfl, (HF.out.trans (Fr.drew _)).trans hf2⟩
  · have hf := Fr.alloc w (.cells #[.pointer (some ⟨b1, o1, none⟩), .pointer p2] 64)
    have HF := Lib.hid hf
    have c25 := hf.cell hg.need
    obtain ⟨kv, c24', hkv⟩ := hg.keys
    have c24 := hf.cell c24'
    have HK := Lib.hid fun w' (hw : Fr w w') => sign_any kv u g.keys q g.need w' (hkv.fr hw) hgb.keys (hu.fr hw) hq
    show Calls _ _ _ _ fun e w' => e = .returned (.bool (sgn g q)) ∧ Fr w w'
    unfold sgn
    clear h hb hu hq hkv c24' hf hg hgb
    go_enter Try.func39, Try.ntmps39
    go_wp2_with fail
    go_region_with (go_at_call 43; refine (HK.out _ (by exact HF.out.trans (Fr.drew _))).mono ?_; rintro e w2 ⟨rfl, hf2⟩)
    all_goals
      go_wp2_with fail
      go_ret
      exact ⟨rfl, (HF.out.trans (Fr.drew _)).trans hf2⟩
end Go.Proofs.Ytddeblcoglhdnaa
