/-
 Functions that can be laid fit a page. Conditions: none.
-/
import Derived.Test.YtmhmlhlplfkpaaaGreatDoorDiRTab
import Derived.Test.YtmhmlhlplfkpaaaGreatDoorDiLives
import Derived.Test.YtmhmlhlplfkpaaaGreatDoorInRP
namespace Go.Proofs.YtmhmlhlplfkpaaaGreatDoor
open Go.RowKit
theorem Di.tabs_size {f : Fn.F} (hw : f.Wf) (hn : f.nodes.length ≤ 4096) (k : Nat) (hk : k ≤ 4096) : (Di.tabs f k).size ≤ 1073741824 + k * 6001 := by
 induction k with
 | zero =>
   have h : (Tr.text f.nodes).size ≤ 1073741824 := Tr.textTo_small f.nodes hw.nodes hn (Nat.le_refl _)
   have e : Di.tabs f 0 = Tr.text f.nodes := ByteArray.append_empty
   rw [e]
   exact Nat.le_trans h (Nat.le_add_right _ _)
 | succ k ih =>
   have h1 := ih (by omega)
   have h2 := Di.part_size f k (Di.slotsOf f k).length hw.at_ (by omega) (Di.slots_in f k)
   have h3 : Di.nl.size = 1 := rfl
   rw [← Di.part_end f k, ByteArray.size_append]
   omega
structure DiOk (v : FnV) (f : Fn.F) : Prop where
 fit : DiFit v
 func : (Di.func f).size ≤ 11000
 tabs : v.Few → (Di.tabs f f.code.length).size ≤ 140737488355328
 right : f.bare = false → Tr.right f.nodes = true
theorem DiOk.of {w : World} {B : Nat} {v : FnV} {f : Fn.F} (h : FnOk w B v f) (hw : f.Wf) (hc : f.can = 0) (hn : v.code.n ≤ 150) : DiOk v f := by
 have hl := Fn.can_len hc
 obtain ⟨_, h2, _, _, _, h6⟩ := Fn.can_ok.1 hc
 have ht := Fn.typed_len h2
 have hs := Di.func_size hw
 have hcn := h.n_code
 refine ⟨fit_of h (by omega) (by omega) (by omega) (by omega) (by omega), by omega, fun hf => ?_, fun hb => ?_⟩
 · have h1 := Di.tabs_size hw (by rw [h.n_nodes]; have := hf.2.2.1; omega) f.code.length (by omega)
   omega
 · rcases h6 with h6 | h6
   · rw [hb] at h6
     cases h6
   · unfold Fn.F.mapped at h6
     exact (Bool.and_eq_true_iff.1 h6).1
end Go.Proofs.YtmhmlhlplfkpaaaGreatDoor
