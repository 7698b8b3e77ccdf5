/-
 A tree as text: the plain mathematics. Conditions: none.
-/
import Derived.Test.YtmhmlhlplfkpaaaDoorInN
import Derived.Lib.Repeat
import Derived.Lib.AppendIntMem
namespace Go.Proofs.YtmhmlhlplfkpaaaDoor.Tr
def ind (k : Nat) : ByteArray := ⟨(Lib.repeatL [32, 32] k).toArray⟩
theorem ind_size (k : Nat) : (ind k).size = 2 * k := by
 rw [Lib.size_eq]
 simp only [ind]
 rw [Lib.repeatL_length]
 simp
 omega
def row (k : Int) (n : Nd) : ByteArray := In.txt k ++ ⟨#[32]⟩ ++ In.txt n.f ++ ⟨#[32]⟩ ++ In.txt n.l ++ ⟨#[10]⟩
def textTo (l : List Nd) : Nat → ByteArray
 | 0 => ByteArray.empty
 | k + 1 => textTo l k ++ ind ((ups l (k : Int)).length - 1) ++ row (k : Int) (l.getD k Nd.nil)
def text (l : List Nd) : ByteArray := textTo l l.length
theorem row_size (k : Int) (n : Nd) (hk : -9223372036854775808 ≤ k ∧ k ≤ 9223372036854775807) (hn : n.wf) : (row k n).size ≤ 66 := by
 have h1 := txt_size k hk.1 hk.2
 have h2 := txt_size n.f (hn n.f (by simp [Nd.list])).1 (hn n.f (by simp [Nd.list])).2
 have h3 := txt_size n.l (hn n.l (by simp [Nd.list])).1 (hn n.l (by simp [Nd.list])).2
 have e1 : (⟨#[32]⟩ : ByteArray).size = 1 := rfl
 have e2 : (⟨#[10]⟩ : ByteArray).size = 1 := rfl
 unfold row
 simp only [ByteArray.size_append, e1, e2]
 omega
theorem textTo_size (l : List Nd) (h : ∀ n ∈ l, n.wf) (hl : l.length ≤ 4096) : ∀ k, k ≤ l.length → (textTo l k).size ≤ k * (66 + 2 * (l.length + 1))
 | 0, _ => by simp [textTo]
 | k + 1, hk => by
   have ih := textTo_size l h hl k (by omega)
   have hm : l.getD k Nd.nil ∈ l := by
     have e : l.getD k Nd.nil = l[k] := by simp [List.getD, show k < l.length by omega]
     rw [e]
     exact List.getElem_mem _
   have hr := row_size (k : Int) (l.getD k Nd.nil) (by omega) (h _ hm)
   have hi := ind_size ((ups l (k : Int)).length - 1)
   have hu := up_len l (l.length + 1) (k : Int)
   have hu2 : (ups l (k : Int)).length ≤ l.length + 1 := hu
   rw [textTo, ByteArray.size_append, ByteArray.size_append, Nat.succ_mul]
   omega
end Go.Proofs.YtmhmlhlplfkpaaaDoor.Tr
