/-
 The example that ends every law of the layer. Conditions: the table of powers of ten is laid.
-/
import Derived.Test.YtmhmlhlplfkpaaaDoorDiTx
import Derived.Test.YtmhmlhlplfkpaaaDoorFlPlain
set_option maxRecDepth 100000
namespace Go.Proofs.YtmhmlhlplfkpaaaDoor
open Go.RowKit
def nameF : Fn.F := ⟨⟨#[102]⟩, false, [], [], [], [], [], [], [], [], []⟩
def nameV : FnV := ⟨⟨#[102]⟩, false, .nil, .nil, .nil, .nil, .nil, .nil, .nil, .nil, .nil⟩
theorem name_ok (w : World) : FnOk w w.heap.size nameV nameF :=
 ⟨rfl, rfl, ⟨intsN _ _, fun _ => rfl⟩, ⟨intsN _ _, fun _ => rfl⟩, ⟨intsN _ _, fun _ => rfl⟩, ⟨intsN _ _, fun _ => rfl⟩, ⟨⟨rfl, fun h => absurd h (by decide)⟩, fun _ => rfl⟩, ⟨intsN _ _, fun _ => rfl⟩, ⟨nodes_nil _ _, fun _ => rfl⟩, ⟨intsN _ _, fun _ => rfl⟩, ⟨sets_nil _ _, fun _ => rfl⟩⟩
theorem name_fit : DiFit nameV := ⟨by decide, by decide, by decide, by decide, by decide⟩
theorem name_head : Di.head nameF = ⟨#[102, 117, 110, 99, 32, 102, 32, 45, 32, 45, 32, 45]⟩ := by kernel_rfl
theorem plain_text : Di.text [retF] = ⟨#[102, 117, 110, 99, 32, 102, 32, 45, 32, 45, 32, 45, 10, 49, 32, 114, 101, 116, 10, 101, 110, 100, 10]⟩ := by kernel_rfl
theorem fit_of {w : World} {B : Nat} {v : FnV} {f : Fn.F} (h : FnOk w B v f) (h0 : f.name.size ≤ 1073741824) (h1 : f.outer.length ≤ 1048576) (h2 : f.params.length ≤ 1048576) (h3 : f.results.length ≤ 1048576) (h4 : f.locals.length ≤ 1048576) : DiFit v :=
 ⟨by rw [h.name]; exact h0, by rw [← h.n_outer]; exact h1, by rw [← h.n_params]; exact h2, by rw [← h.n_results]; exact h3, by rw [← h.n_locals]; exact h4⟩
theorem text_page : (Di.text [retF]).size ≤ 140737488355328 := by rw [plain_text]; decide
set_option maxHeartbeats 4000000 in
theorem lives18_any (w : World) (hp : Pow w) : Calls Tryd.prog 5 #[] w (BoolP true w) := by
 have H1 := dhead_any nameV nameF w (name_ok w) name_fit
 rw [name_head] at H1
 have HPl := Lib.hid (fun W => plain_any W)
 have HP := Lib.hid hp
 have hs1 : ((⟨#[102, 117, 110, 99, 32, 102, 32, 45, 32, 45, 32, 45]⟩ : ByteArray).toList == (⟨#[102, 117, 110, 99, 32, 102, 32, 45, 32, 45, 32, 45]⟩ : ByteArray).toList) = true := beq_self_eq_true _
 clear hp
 go_enter Tryd.func5, Tryd.ntmps5
 go_wp2_with (first
   | (go_at_call 9; refine H1.mono ?_; rintro _ w1 ⟨rfl, hb1⟩; have HB1 := Lib.hid hb1; clear hb1 H1)
   | (go_at_call 10; refine (HPl.out _).mono ?_; rintro _ w2 ⟨a, c, us, rfl, hf, hb2⟩; refine Hid.out ?_))
 have hfit : ∀ k, k < 1 → DiFit (us.getD k .zero) := fun k hk => by
   obtain rfl : k = 0 := by omega
   exact fit_of (hf.ok 0 (by decide)) (by decide) (by decide) (by decide) (by decide) (by decide)
 have hb3 := HB1.out.trans (hb2.mono HB1.out.size)
 have hT := dtext_any a 1 c us [retF] w2 hf (by decide) hfit plain_wf (HP.out.below hb3) text_page
 rw [plain_text] at hT
 have HT := Lib.hid hT
 have HB2 := Lib.hid hb3
 have hs2 : ((⟨#[102, 117, 110, 99, 32, 102, 32, 45, 32, 45, 32, 45, 10, 49, 32, 114, 101, 116, 10, 101, 110, 100, 10]⟩ : ByteArray).toList == (⟨#[102, 117, 110, 99, 32, 102, 32, 45, 32, 45, 32, 45, 10, 49, 32, 114, 101, 116, 10, 101, 110, 100, 10]⟩ : ByteArray).toList) = true := beq_self_eq_true _
 clear hfit hb3 hT hf hb2 HPl HP
 refine Lib.hid ?_
 go_wp2_with (go_at_call 6; refine HT.out.mono ?_; rintro _ w3 ⟨rfl, hb4⟩; have HB3 := Lib.hid (HB2.out.trans (hb4.mono HB2.out.size)); clear hb4 HT)
 go_ret
 exact ⟨rfl, HB3.out⟩
end Go.Proofs.YtmhmlhlplfkpaaaDoor
