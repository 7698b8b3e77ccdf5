/-
 Programs as text: the plain mathematics. Conditions: none.
-/
import Derived.Test.YtmhmlhlplfkpaaaDoorTrT
import Derived.Test.YtmhmlhlplfkpaaaDoorUv
import Derived.Lib.Join
namespace Go.Proofs.YtmhmlhlplfkpaaaDoor.Di
open _root_.Go.Proofs.YtmhmlhlplfkpaaaDoor.Fn (F)
def glue (s y : ByteArray) : ByteArray := s ++ ⟨#[32]⟩ ++ y
def join : List ByteArray → ByteArray
 | [] => ByteArray.empty
 | x :: r => r.foldl glue x
theorem join_snoc : ∀ {l : List ByteArray} (_ : l ≠ []) (y : ByteArray), join (l ++ [y]) = join l ++ ⟨#[32]⟩ ++ y
 | [], h, _ => absurd rfl h
 | x :: r, _, y => by
   show (r ++ [y]).foldl glue x = r.foldl glue x ++ ⟨#[32]⟩ ++ y
   rw [List.foldl_append]
   rfl
theorem foldl_list : ∀ (r : List ByteArray) (x : ByteArray), (r.foldl glue x).data.toList = x.data.toList ++ Lib.joinTail [32] (r.map (·.data.toList))
 | [], x => by simp [Lib.joinTail]
 | y :: r, x => by
   rw [List.foldl_cons, foldl_list r (glue x y)]
   simp [glue, Lib.joinTail]
theorem join_lib (l : List ByteArray) : (⟨(Lib.join (l.map (·.data.toList)) [32]).toArray⟩ : ByteArray) = join l := by
 apply In.list_ext
 cases l with
 | nil => rfl
 | cons x r =>
   rw [List.map_cons, Lib.join_cons]
   exact (foldl_list r x).symm
def sizes (l : List ByteArray) : Nat := (l.map (·.size)).sum
theorem sizes_append (a b : List ByteArray) : sizes (a ++ b) = sizes a + sizes b := by simp [sizes]
theorem foldl_size : ∀ (r : List ByteArray) (x : ByteArray), (r.foldl glue x).size = x.size + sizes r + r.length
 | [], x => by simp [sizes]
 | y :: r, x => by
   have h1 : (⟨#[32]⟩ : ByteArray).size = 1 := rfl
   rw [List.foldl_cons, foldl_size r (glue x y), glue, ByteArray.size_append, ByteArray.size_append, h1]
   simp only [sizes, List.map_cons, List.sum_cons, List.length_cons]
   omega
theorem join_size (l : List ByteArray) : (join l).size ≤ sizes l + l.length := by
 cases l with
 | nil => exact Nat.zero_le _
 | cons x r =>
   show (r.foldl glue x).size ≤ _
   rw [foldl_size]
   simp only [sizes, List.map_cons, List.sum_cons, List.length_cons]
   omega
def ty (l : List Int) : ByteArray := str (Si.text l)
theorem ty_size (l : List Int) : (ty l).size ≤ l.length + 1 := by
 unfold ty Si.text
 rw [str_size]
 split
 · simp
 · simp
def begin_ : ByteArray := ⟨#[102, 117, 110, 99]⟩
def fin : ByteArray := ⟨#[101, 110, 100]⟩
def nl : ByteArray := ⟨#[10]⟩
def five (f : F) : List ByteArray := [begin_, f.name, ty f.params, ty f.results, ty f.locals]
def words (f : F) : List ByteArray := if f.inner then five f ++ [ty f.outer] else five f
def head (f : F) : ByteArray := join (words f)
theorem head_plain {f : F} (h : f.inner = false) : head f = join (five f) := by unfold head words; rw [h]; rfl
theorem head_inner {f : F} (h : f.inner = true) : head f = join (five f) ++ ⟨#[32]⟩ ++ ty f.outer := by
 unfold head words
 rw [h]
 exact join_snoc (by simp [five]) _
theorem head_size (f : F) : (head f).size ≤ f.name.size + (f.params.length + f.results.length + f.locals.length + f.outer.length) + 14 := by
 have h := join_size (words f)
 have h1 := ty_size f.params
 have h2 := ty_size f.results
 have h3 := ty_size f.locals
 have h4 := ty_size f.outer
 have hb : begin_.size = 4 := rfl
 have h5 : sizes (words f) + (words f).length ≤ f.name.size + (f.params.length + f.results.length + f.locals.length + f.outer.length) + 14 := by
   unfold words
   split
   · rw [sizes_append]
     simp only [five, sizes, List.map_cons, List.map_nil, List.sum_cons, List.sum_nil, List.length_append, List.length_cons, List.length_nil]
     omega
   · simp only [five, sizes, List.map_cons, List.map_nil, List.sum_cons, List.sum_nil, List.length_cons, List.length_nil]
     omega
 exact Nat.le_trans h h5
def lwords (f : F) (k : Nat) : List ByteArray := [In.txt (Li.at_ f.lines (k : Int)), In.text (f.code.getD k (0, 0)).1 (f.code.getD k (0, 0)).2]
def line (f : F) (k : Nat) : ByteArray := join (lwords f k)
theorem line_eq (f : F) (k : Nat) : line f k = In.txt (Li.at_ f.lines (k : Int)) ++ ⟨#[32]⟩ ++ In.text (f.code.getD k (0, 0)).1 (f.code.getD k (0, 0)).2 := rfl
def codeTo (f : F) : Nat → ByteArray
 | 0 => ByteArray.empty
 | k + 1 => codeTo f k ++ line f k ++ nl
def upTo (f : F) (k : Nat) : ByteArray := head f ++ nl ++ codeTo f k
theorem upTo_zero (f : F) : upTo f 0 = head f ++ nl := by
 unfold upTo
 exact ByteArray.append_empty
theorem upTo_succ (f : F) (k : Nat) : upTo f (k + 1) = upTo f k ++ line f k ++ nl := by
 unfold upTo
 rw [codeTo, ByteArray.append_assoc, ByteArray.append_assoc, ByteArray.append_assoc, ByteArray.append_assoc, ByteArray.append_assoc]
def func (f : F) : ByteArray := upTo f f.code.length ++ fin ++ nl
theorem codeTo_grows (f : F) : ∀ {n k : Nat}, k ≤ n → (codeTo f k).size ≤ (codeTo f n).size
 | 0, k, h => by rw [show k = 0 by omega]; exact Nat.le_refl _
 | n + 1, k, h => by
   rcases Nat.lt_or_ge k (n + 1) with h1 | h1
   · have := codeTo_grows f (n := n) (k := k) (by omega)
     rw [codeTo, ByteArray.size_append, ByteArray.size_append]
     omega
   · rw [show k = n + 1 by omega]; exact Nat.le_refl _
theorem upTo_le (f : F) {k : Nat} (h : k ≤ f.code.length) : (upTo f k).size + 4 ≤ (func f).size := by
 have h1 := codeTo_grows f h
 have h2 : fin.size = 3 := rfl
 have h3 : nl.size = 1 := rfl
 unfold func upTo
 rw [ByteArray.size_append, ByteArray.size_append, ByteArray.size_append, ByteArray.size_append, ByteArray.size_append, ByteArray.size_append]
 omega
theorem upTo_head (f : F) (k : Nat) : (head f).size + 1 ≤ (upTo f k).size := by
 have h3 : nl.size = 1 := rfl
 unfold upTo
 rw [ByteArray.size_append, ByteArray.size_append]
 omega
theorem text_le (op a : Int) (h : Fn.I64 a) : (In.text op a).size ≤ 43 := by
 have hn : (Op.name op).size ≤ 21 := by
   unfold Op.name
   split
   · have h : Op.names.all (fun x => decide (x.size ≤ 21)) = true := by kernel_rfl
     rcases Nat.lt_or_ge op.toNat Op.names.length with hl | hl
     · rw [List.getD_eq_getElem?_getD, List.getElem?_eq_getElem hl]
       exact of_decide_eq_true (List.all_eq_true.1 h _ (List.getElem_mem hl))
     · rw [List.getD_eq_getElem?_getD, List.getElem?_eq_none hl]
       exact Nat.zero_le _
   · exact Nat.zero_le _
 have h2 := txt_size a h.1 h.2
 have h3 : (ByteArray.mk #[32]).size = 1 := rfl
 unfold In.text
 split
 · split
   · rw [ByteArray.size_append, ByteArray.size_append]
     omega
   · omega
 · exact Nat.zero_le _
theorem at_in {l : List Int} (h : ∀ z ∈ l, -9223372036854775808 ≤ z ∧ z ≤ 9223372036854775807) (x : Int) : -9223372036854775808 ≤ Li.at_ l x ∧ Li.at_ l x ≤ 9223372036854775807 := by
 unfold Li.at_
 split
 · omega
 · rename_i h1
   have e : l.getD x.toNat 0 = l[x.toNat] := by simp [List.getD, show x.toNat < l.length by omega]
   rw [e]
   exact h _ (List.getElem_mem _)
theorem code_in {l : List (Int × Int)} (h : ∀ p ∈ l, Fn.I64 p.1 ∧ Fn.I64 p.2) (k : Nat) : Fn.I64 (l.getD k (0, 0)).1 ∧ Fn.I64 (l.getD k (0, 0)).2 := by
 rcases Nat.lt_or_ge k l.length with h1 | h1
 · have e : l.getD k (0, 0) = l[k] := by simp [List.getD, h1]
   rw [e]
   exact h _ (List.getElem_mem _)
 · rw [List.getD_eq_getElem?_getD, List.getElem?_eq_none h1]
   unfold Fn.I64
   decide
theorem line_size {f : F} (h : f.Wf) (k : Nat) : (line f k).size ≤ 65 := by
 have h1 := at_in h.lines (k : Int)
 have h2 := txt_size _ h1.1 h1.2
 have h3 := text_le (f.code.getD k (0, 0)).1 _ (code_in h.code k).2
 have h4 : (ByteArray.mk #[32]).size = 1 := rfl
 rw [line_eq, ByteArray.size_append, ByteArray.size_append]
 omega
theorem codeTo_size {f : F} (h : f.Wf) : ∀ k, (codeTo f k).size ≤ k * 66
 | 0 => Nat.zero_le _
 | k + 1 => by
   have h1 := codeTo_size h k
   have h2 := line_size h k
   have h3 : nl.size = 1 := rfl
   rw [codeTo, ByteArray.size_append, ByteArray.size_append]
   omega
theorem func_size {f : F} (h : f.Wf) : (func f).size ≤ f.name.size + (f.params.length + f.results.length + f.locals.length + f.outer.length) + f.code.length * 66 + 19 := by
 have h1 := codeTo_size h f.code.length
 have h2 := head_size f
 have h3 : nl.size = 1 := rfl
 have h4 : fin.size = 3 := rfl
 unfold func upTo
 rw [ByteArray.size_append, ByteArray.size_append, ByteArray.size_append, ByteArray.size_append]
 omega
def textTo (l : List F) : Nat → ByteArray
 | 0 => ByteArray.empty
 | k + 1 => textTo l k ++ func (l.getD k .zero)
def text (l : List F) : ByteArray := textTo l l.length
theorem textTo_size {l : List F} {m : Nat} (h : ∀ f ∈ l, (func f).size ≤ m) : ∀ {k}, k ≤ l.length → (textTo l k).size ≤ k * m
 | 0, _ => Nat.zero_le _
 | k + 1, hk => by
   have h1 := textTo_size h (k := k) (by omega)
   have e : l.getD k .zero = l[k] := by simp [List.getD, show k < l.length by omega]
   have h2 := h l[k] (List.getElem_mem _)
   rw [textTo, ByteArray.size_append, e, Nat.succ_mul]
   omega
theorem textTo_grows (l : List F) : ∀ {n k : Nat}, k ≤ n → (textTo l k).size ≤ (textTo l n).size
 | 0, k, h => by rw [show k = 0 by omega]; exact Nat.le_refl _
 | n + 1, k, h => by
   rcases Nat.lt_or_ge k (n + 1) with h1 | h1
   · have := textTo_grows l (n := n) (k := k) (by omega)
     rw [textTo, ByteArray.size_append]
     omega
   · rw [show k = n + 1 by omega]; exact Nat.le_refl _
def at_ (f : F) (k : Nat) : Int := f.at_.getD k 0
def slotsOf (f : F) (k : Nat) : List Int := (Mp.at_ f.live (k : Int)).list
def rwords (f : F) (k : Nat) : List ByteArray := [In.txt (k : Int), In.txt (at_ f k)] ++ (slotsOf f k).map In.txt
def row (f : F) (k : Nat) : ByteArray := join (rwords f k)
end Go.Proofs.YtmhmlhlplfkpaaaDoor.Di
