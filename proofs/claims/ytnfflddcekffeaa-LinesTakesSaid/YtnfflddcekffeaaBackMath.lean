/-
  What was laid one behind the other is taken one behind the other: the plain mathematics. Conditions: numbers of their types; texts shorter than 2^63.
-/
import Derived.Test.YtnfflddcekffeaaOneC
namespace Go.Proofs.Ytnfflddcekffeaa

/-- A text's bytes. -/
def nats (s : ByteArray) : List Nat := s.data.toList.map UInt8.toNat
theorem nats_length (s : ByteArray) : (nats s).length = s.size := by
  unfold nats
  rw [List.length_map, Array.length_toList]
  rfl
theorem nats_byte (s : ByteArray) : ∀ c ∈ nats s, c < 256 := by
  intro c hc
  obtain ⟨b, _, rfl⟩ := List.mem_map.1 hc
  exact b.toNat_lt
theorem str_nats (s : ByteArray) : str (nats s) = s := by
  apply ByteArray.ext
  simp [str, nats, Function.comp_def]
theorem nats_getD (s : ByteArray) (j : Nat) (h : j < s.size) : (nats s).getD j 0 = (s.data.toList.getD j 0).toNat := by
  have h' : j < s.data.size := h
  simp only [nats, List.getD, List.getElem?_map, Array.getElem?_toList, Array.getElem?_eq_getElem h', Option.map_some, Option.getD_some]

def laidI : List Int → List Nat
  | [] => []
  | z :: r => Uv.put (Uv.fold z) ++ laidI r
def laidS : List ByteArray → List Nat
  | [] => []
  | s :: r => (Uv.put s.size ++ nats s) ++ laidS r

theorem laidI_append (a b : List Int) : laidI (a ++ b) = laidI a ++ laidI b := by
  induction a with
  | nil => rfl
  | cons z r ih => simp [laidI, ih]
theorem laidS_append (a b : List ByteArray) : laidS (a ++ b) = laidS a ++ laidS b := by
  induction a with
  | nil => rfl
  | cons z r ih => simp [laidS, ih]

theorem take_succ_getD {α : Type} {l : List α} {k : Nat} (h : k < l.length) (d : α) : l.take (k + 1) = l.take k ++ [l.getD k d] := by
  rw [List.take_succ_eq_append_getElem h]
  simp [List.getD, h]
theorem drop_getD {α : Type} {l : List α} {k : Nat} (h : k < l.length) (d : α) : l.drop k = l.getD k d :: l.drop (k + 1) := by
  rw [List.drop_eq_getElem_cons h]
  simp [List.getD, h]

theorem laidI_snoc {l : List Int} {k : Nat} (h : k < l.length) : laidI (l.take (k + 1)) = laidI (l.take k) ++ Uv.put (Uv.fold (l.getD k 0)) := by
  rw [take_succ_getD h 0, laidI_append]
  simp [laidI]
theorem laidS_snoc {l : List ByteArray} {k : Nat} (h : k < l.length) : laidS (l.take (k + 1)) = laidS (l.take k) ++ (Uv.put (l.getD k .empty).size ++ nats (l.getD k .empty)) := by
  rw [take_succ_getD h .empty, laidS_append]
  simp [laidS]
theorem laidI_drop {l : List Int} {k : Nat} (h : k < l.length) : laidI (l.drop k) = Uv.put (Uv.fold (l.getD k 0)) ++ laidI (l.drop (k + 1)) := by
  rw [drop_getD h 0]
  rfl
theorem laidS_drop {l : List ByteArray} {k : Nat} (h : k < l.length) : laidS (l.drop k) = (Uv.put (l.getD k .empty).size ++ nats (l.getD k .empty)) ++ laidS (l.drop (k + 1)) := by
  rw [drop_getD h .empty]
  rfl

theorem laidI_byte (l : List Int) : ∀ c ∈ laidI l, c < 256 := by
  induction l with
  | nil => simp [laidI]
  | cons z r ih =>
    intro c hc
    rcases List.mem_append.1 hc with h | h
    · exact Uv.put_byte _ c h
    · exact ih c h
theorem laidS_byte (l : List ByteArray) : ∀ c ∈ laidS l, c < 256 := by
  induction l with
  | nil => simp [laidS]
  | cons z r ih =>
    intro c hc
    rcases List.mem_append.1 hc with h | h
    · rcases List.mem_append.1 h with h | h
      · exact Uv.put_byte _ c h
      · exact nats_byte z c h
    · exact ih c h

/-- How many bytes all texts have. -/
def tot : List ByteArray → Nat
  | [] => 0
  | s :: r => s.size + tot r
theorem tot_take (l : List ByteArray) (k : Nat) : tot (l.take k) ≤ tot l := by
  induction l generalizing k with
  | nil => simp
  | cons s r ih =>
    cases k with
    | zero => simp [tot]
    | succ k => simp only [List.take_succ_cons, tot]; have := ih k; omega
theorem tot_mem {l : List ByteArray} {k : Nat} (h : k < l.length) : (l.getD k .empty).size ≤ tot l := by
  induction l generalizing k with
  | nil => simp at h
  | cons s r ih =>
    cases k with
    | zero => simp [tot]
    | succ k =>
      have := ih (k := k) (by simpa using h)
      simp only [List.getD_cons_succ, tot]
      omega

theorem laidI_len {l : List Int} (h : ∀ z ∈ l, -9223372036854775808 ≤ z ∧ z ≤ 9223372036854775807) : (laidI l).length ≤ 10 * l.length := by
  induction l with
  | nil => simp [laidI]
  | cons z r ih =>
    have h1 := h z (by simp)
    have h2 := Uv.put_len_10 (Uv.fold_lt h1.1 h1.2)
    have := ih (fun z hz => h z (by simp [hz]))
    simp only [laidI, List.length_append, List.length_cons]
    omega
theorem laidS_len {l : List ByteArray} (h : tot l ≤ 1048576) : (laidS l).length ≤ 10 * l.length + tot l := by
  induction l with
  | nil => simp [laidS]
  | cons s r ih =>
    simp only [tot] at h
    have h2 := Uv.put_len_10 (n := s.size) (by omega)
    have := ih (by omega)
    simp only [laidS, List.length_append, List.length_cons, tot, nats_length]
    omega

/-- A number that was laid is taken. -/
theorem intA_put {x : Int} (h1 : -9223372036854775808 ≤ x) (h2 : x ≤ 9223372036854775807) (r : List Nat) : intA (Uv.put (Uv.fold x) ++ r, 0) = (x, r, 0) := by
  unfold intA
  simp only [Uv.get_put (Uv.fold_lt h1 h2), Uv.unfold_fold]
  unfold failA
  rw [if_pos (.inl rfl)]
  simp

/-- A text that was laid is taken. -/
theorem textA_put {s : ByteArray} (h : s.size ≤ 9223372036854775807) (r : List Nat) : textA ((Uv.put s.size ++ nats s) ++ r, 0) (s.size : Int) = (s, r, 0) := by
  have hb : bitsA ((Uv.put s.size ++ nats s) ++ r, 0) = (s.size, nats s ++ r, 0) := by
    unfold bitsA
    rw [List.append_assoc]
    simp only [Uv.get_put (n := s.size) (by omega)]
    unfold failA
    rw [if_pos (.inl rfl)]
    simp
  have hn : numA ((Uv.put s.size ++ nats s) ++ r, 0) (s.size : Int) = (s.size, nats s ++ r, 0) := by
    unfold numA
    rw [hb, if_neg (by simp only; omega)]
  have hl := nats_length s
  have ht : textB (nats s ++ r) s.size = (s, s.size, 0) := by
    unfold textB
    rw [if_neg (by simp [hl])]
    rw [List.take_append_of_le_length (by omega), List.take_of_length_le (by omega), str_nats]
  unfold textA
  rw [hn]
  simp only [ht]
  unfold failA
  rw [if_pos (.inl rfl)]
  rw [List.drop_append_of_le_length (by omega), List.drop_of_length_le (by omega)]
  rfl
end Go.Proofs.Ytnfflddcekffeaa
