/-
 A program's text is read as the program: the plain mathematics. Conditions: the program can be laid and has no tables.
-/
import Derived.Test.YtmhmlhlplfkpaaaGreatDoorDiMath
import Derived.Test.YtmhmlhlplfkpaaaGreatDoorAsA
namespace Go.Proofs.YtmhmlhlplfkpaaaGreatDoor
open _root_.Go.Proofs.YtmhmlhlplfkpaaaGreatDoor.Fn (F)
namespace As
def Free (c : UInt8) (s : ByteArray) : Prop := ∀ y ∈ s.data.toList, y ≠ c
theorem Free.app {c : UInt8} {a b : ByteArray} (h : Free c a) (h2 : Free c b) : Free c (a ++ b) := by
 intro y hy
 rw [ByteArray.data_append, Array.toList_append] at hy
 rcases List.mem_append.1 hy with hy | hy
 · exact h y hy
 · exact h2 y hy
theorem free_blank : Free 10 ⟨#[32]⟩ := fun y hy => by obtain rfl := List.mem_singleton.1 hy; decide
theorem pieces_join (c : UInt8) : ∀ (x : List UInt8) (_ : ∀ y ∈ x, y ≠ c) (r : List UInt8), pieces c (x ++ c :: r) = x :: pieces c r
 | [], _, r => pieces_hit c r
 | y :: x, h, r => pieces_miss (h y (by simp)) (pieces_join c x (fun z hz => h z (by simp [hz])) r)
theorem pieces_last (c : UInt8) : ∀ (x : List UInt8) (_ : ∀ y ∈ x, y ≠ c), pieces c x = [x]
 | [], _ => rfl
 | y :: x, h => pieces_miss (h y (by simp)) (pieces_last c x (fun z hz => h z (by simp [hz])))
theorem text_list (s : ByteArray) : text s.data.toList = s := by
 apply In.list_ext
 simp [text]
theorem words_line {c : UInt8} {x : ByteArray} (h : Free c x) (r : ByteArray) : words c (x ++ ⟨#[c]⟩ ++ r) = x :: words c r := by
 have e : (x ++ ⟨#[c]⟩ ++ r).data.toList = x.data.toList ++ c :: r.data.toList := by simp
 unfold words
 rw [e, pieces_join c _ h, List.map_cons, text_list]
theorem words_join : ∀ (r : List ByteArray) (x : ByteArray), Free 32 x → (∀ y ∈ r, Free 32 y) → pieces 32 (x.data.toList ++ Lib.joinTail [32] (r.map (·.data.toList))) = x.data.toList :: r.map (·.data.toList)
 | [], x, hx, _ => by
   show pieces 32 (x.data.toList ++ []) = _
   rw [List.append_nil]
   exact pieces_last 32 _ hx
 | y :: r, x, hx, hr => by
   have e : Lib.joinTail [32] ((y :: r).map (·.data.toList)) = 32 :: (y.data.toList ++ Lib.joinTail [32] (r.map (·.data.toList))) := by
     simp [Lib.joinTail]
   rw [e, pieces_join 32 _ hx, words_join r y (hr y (by simp)) (fun z hz => hr z (by simp [hz]))]
   rfl
theorem words_of {l : List ByteArray} (h : l ≠ []) (hf : ∀ x ∈ l, Free 32 x) : words 32 (Di.join l) = l := by
 match l, h with
 | x :: r, _ =>
   unfold words
   rw [show (Di.join (x :: r)).data.toList = _ from Di.foldl_list r x, words_join r x (hf x (by simp)) (fun y hy => hf y (by simp [hy])), List.map_cons, text_list, List.map_map]
   congr 1
   have : (text ∘ fun x : ByteArray => x.data.toList) = id := funext text_list
   rw [this, List.map_id]
def Fine (s : ByteArray) : Prop := Free 32 s ∧ Free 10 s
theorem Fine.of {s : ByteArray} (h : ∀ y ∈ s.data.toList, 33 ≤ y.toNat) : Fine s :=
 ⟨fun y hy e => by have := h y hy; subst e; simp at this, fun y hy e => by have := h y hy; subst e; simp at this⟩
theorem hge0 {a b : Nat} (h : Nm.within a = true) (e : a = b) : 33 ≤ b := by
 subst e
 unfold Nm.within Nm.letter at h
 simp at h
 omega
theorem fine_name {s : ByteArray} (h : Nm.may s = true) : Fine s := by
 refine Fine.of fun y hy => ?_
 unfold Nm.may at h
 simp only [Bool.and_eq_true, List.all_eq_true, List.mem_range] at h
 obtain ⟨i, hi, rfl⟩ := List.mem_iff_getElem.1 hy
 have h1 := h.2 i (by rw [Lib.size_eq]; exact hi)
 have hi2 : i < s.data.size := by simpa using hi
 have e : Nm.byte s i = (s.data.toList[i]).toNat := by simp [Nm.byte, List.getD, Array.getElem?_eq_getElem hi2]
 have hge := hge0 h1 e
 exact hge
theorem fine_ty (l : List Int) : Fine (Di.ty l) := by
 refine Fine.of fun y hy => ?_
 have hy' : y ∈ (Si.text l).map UInt8.ofNat := by simpa [Di.ty, str] using hy
 obtain ⟨c, hc, rfl⟩ := List.mem_map.1 hy'
 have h2 : 33 ≤ c ∧ c < 128 := by
   unfold Si.text at hc
   split at hc
   · obtain rfl := List.mem_singleton.1 hc; omega
   · obtain ⟨t, _, rfl⟩ := List.mem_map.1 hc
     unfold Si.letter
     split
     · omega
     · split <;> omega
 simp [UInt8.toNat_ofNat']
 omega
theorem fine_txt (n : Int) : Fine (In.txt n) := by
 refine Fine.of fun y hy => ?_
 have hy' : y ∈ Lib.itoa n := by simpa [In.txt] using hy
 unfold Lib.itoa at hy'
 split at hy'
 · rcases List.mem_cons.1 hy' with rfl | hy'
   · decide
   · have := In.dec_digit _ y hy'
     omega
 · have := In.dec_digit _ y hy'
   omega
theorem name_fine {op : Int} : Free 10 (Op.name op) := by
 unfold Op.name
 split
 · have h : Op.names.all (fun x => x.data.toList.all fun c => decide (c ≠ 10)) = true := by kernel_rfl
   rcases Nat.lt_or_ge op.toNat Op.names.length with hl | hl
   · rw [List.getD_eq_getElem?_getD, List.getElem?_eq_getElem hl]
     intro c hc
     exact of_decide_eq_true (List.all_eq_true.1 (List.all_eq_true.1 h _ (List.getElem_mem hl)) c hc)
   · rw [List.getD_eq_getElem?_getD, List.getElem?_eq_none hl]
     intro c hc
     cases hc
 · intro c hc
   cases hc
theorem name_pos {op : Int} (h : 0 ≤ op ∧ op < 35) : (Op.name op).size ≠ 0 := by
 have hall : Op.names.all (fun x => decide (x.size ≠ 0)) = true := by kernel_rfl
 have hlen : Op.names.length = 35 := by kernel_rfl
 unfold Op.name
 split
 · have hl : op.toNat < Op.names.length := by omega
   rw [List.getD_eq_getElem?_getD, List.getElem?_eq_getElem hl]
   exact of_decide_eq_true (List.all_eq_true.1 hall _ (List.getElem_mem hl))
 · rename_i hn
   exact absurd h hn
theorem itext_fine (op a : Int) : Free 10 (In.text op a) := by
 unfold In.text
 split
 · split
   · exact (name_fine.app free_blank).app (fine_txt a).2
   · exact name_fine
 · intro y hy
   cases hy
theorem itext_pos {op a : Int} (h : In.right op a = true) : (In.text op a).size ≠ 0 := by
 have hp := name_pos (In.right_known h)
 unfold In.text
 rw [if_pos h]
 split
 · rw [ByteArray.size_append, ByteArray.size_append]
   omega
 · exact hp
theorem line_fine (f : F) (k : Nat) : Free 10 (Di.line f k) := by
 rw [Di.line_eq]
 exact ((fine_txt _).2.app free_blank).app (itext_fine _ _)
theorem fine_begin : Fine func_ := Fine.of (by decide)
theorem words_fine {f : F} (h : Nm.may f.name = true) : ∀ x ∈ Di.words f, Fine x := by
 have h5 : ∀ x ∈ Di.five f, Fine x := by
   intro x hx
   simp only [Di.five, List.mem_cons, List.not_mem_nil, or_false] at hx
   rcases hx with rfl | rfl | rfl | rfl | rfl
   · exact fine_begin
   · exact fine_name h
   · exact fine_ty _
   · exact fine_ty _
   · exact fine_ty _
 intro x hx
 unfold Di.words at hx
 split at hx
 · rcases List.mem_append.1 hx with hx | hx
   · exact h5 x hx
   · obtain rfl := List.mem_singleton.1 hx
     exact fine_ty _
 · exact h5 x hx
theorem foldl_free : ∀ (r : List ByteArray) (x : ByteArray), Free 10 x → (∀ y ∈ r, Free 10 y) → Free 10 (r.foldl Di.glue x)
 | [], _, hx, _ => hx
 | y :: r, x, hx, hr => foldl_free r _ ((hx.app free_blank).app (hr y (by simp))) (fun z hz => hr z (by simp [hz]))
theorem head_fine {f : F} (h : Nm.may f.name = true) : Free 10 (Di.head f) := by
 have hw := words_fine h
 unfold Di.head
 have he : ∃ x r, Di.words f = x :: r := by
   unfold Di.words
   split
   · exact ⟨_, _, rfl⟩
   · exact ⟨_, _, rfl⟩
 obtain ⟨x, r, he⟩ := he
 rw [he] at hw ⊢
 exact foldl_free r x (hw x (by simp)).2 (fun y hy => (hw y (by simp [hy])).2)
theorem ty_back {l : List Int} (h : l.all Si.may = true) : Si.read (Si.codes (Di.ty l)) = some l := by
 have hc : Si.codes (Di.ty l) = Si.text l := Si.codes_str _ (fun x hx => by have := Si.text_lt l x hx; omega)
 rw [hc]
 cases l with
 | nil => rfl
 | cons t r =>
   have e : Si.text (t :: r) = (t :: r).map Si.letter := by unfold Si.text; rw [if_neg (by simp)]
   have hty : Si.types ((t :: r).map Si.letter) = t :: r := by
     unfold Si.types
     rw [List.map_map]
     conv => rhs; rw [← List.map_id (t :: r)]
     apply List.map_congr_left
     intro x hx
     exact Si.letter_typed (List.all_eq_true.1 h x hx)
   rw [e]
   unfold Si.read
   rw [hty, if_neg, if_neg (by simp), if_pos h]
   intro e2
   have h1 : Si.letter t = 45 := by simpa using (List.cons.inj (by simpa using e2 : Si.letter t :: r.map Si.letter = 45 :: [])).1
   rcases (Si.may_iff t).1 (List.all_eq_true.1 h t (by simp)) with rfl | rfl
   · exact absurd h1 (by decide)
   · exact absurd h1 (by decide)
def bare0 (f : F) : F := { f with code := [], lines := [] }
def upto (f : F) (k : Nat) : F := { f with code := f.code.take k, lines := f.lines.take k }
structure Good (f : F) : Prop where
 name : Nm.may f.name = true
 outer : f.outer.all Si.may = true
 params : f.params.all Si.may = true
 results : f.results.all Si.may = true
 locals : f.locals.all Si.may = true
 none : f.inner = true ∨ f.outer = []
 ops : ∀ p ∈ f.code, In.right p.1 p.2 = true
 lines : ∀ x ∈ f.lines, Li.may x = true
 len : f.lines.length = f.code.length
 nodes : f.nodes = []
 at_ : f.at_ = []
 live : f.live = []
theorem Good.of {f : F} (h : f.can = 0) (hb : f.bare = true) : Good f := by
 obtain ⟨h1, h2, h3, h4, h5, _⟩ := Fn.can_ok.1 h
 unfold Fn.F.typed Si.right at h2
 unfold Fn.F.ops at h4
 unfold Fn.F.lined Li.right at h5
 unfold Fn.F.bare at hb
 simp only [Bool.and_eq_true, decide_eq_true_eq, Bool.or_eq_true] at h2 h5 hb
 exact ⟨h1, h2.1.2, h2.2.1.2, h2.2.2.1.2, h2.2.2.2.1.2, h2.2.2.2.2.imp id List.length_eq_zero_iff.1, List.all_eq_true.1 h4, List.all_eq_true.1 h5.2.2, h5.1, List.length_eq_zero_iff.1 hb.1, List.length_eq_zero_iff.1 hb.2.1, List.length_eq_zero_iff.1 hb.2.2⟩
theorem head_back {f : F} (h : Good f) : head (Di.head f) = (bare0 f, 0) := by
 have hw : words 32 (Di.head f) = Di.words f := by
   refine words_of ?_ fun x hx => (words_fine h.name x hx).1
   unfold Di.words
   split <;> simp [Di.five]
 unfold head
 rw [hw]
 obtain ⟨name, inner, outer, params, results, locals, code, lines, nodes, at_, live⟩ := f
 obtain ⟨h1, h2, h3, h4, h5, h6, _, _, _, h7, h8, h9⟩ := h
 dsimp only at h1 h2 h3 h4 h5 h6 h7 h8 h9
 subst h7 h8 h9
 cases inner with
 | true =>
   have e : Di.words ⟨name, true, outer, params, results, locals, code, lines, [], [], []⟩ = [func_, name, Di.ty params, Di.ty results, Di.ty locals, Di.ty outer] := rfl
   rw [e]
   refine (head_parts (l := [func_, name, Di.ty params, Di.ty results, Di.ty locals, Di.ty outer]) rfl (.inr rfl) h1).trans ?_
   show parts 0 [Di.ty params, Di.ty results, Di.ty locals, Di.ty outer] _ = _
   simp only [parts, ty_back h2, ty_back h3, ty_back h4, ty_back h5]
   rfl
 | false =>
   have e : Di.words ⟨name, false, outer, params, results, locals, code, lines, [], [], []⟩ = [func_, name, Di.ty params, Di.ty results, Di.ty locals] := rfl
   obtain rfl : outer = [] := by
     rcases h6 with h6 | h6
     · cases h6
     · exact h6
   rw [e]
   refine (head_parts (l := [func_, name, Di.ty params, Di.ty results, Di.ty locals]) rfl (.inl rfl) h1).trans ?_
   show parts 0 [Di.ty params, Di.ty results, Di.ty locals] _ = _
   simp only [parts, ty_back h3, ty_back h4, ty_back h5]
   rfl
theorem taken2 {l : List (Int × Int)} {k : Nat} (h : k < l.length) : l.take (k + 1) = l.take k ++ [l.getD k (0, 0)] := Ru.taken h (0, 0)
theorem line_back {f : F} (h : Good f) (hw : f.Wf) {k : Nat} (hk : k < f.code.length) : line (Di.line f k) = ((f.code.getD k (0, 0), f.lines.getD k 0), 0) := by
 have hl : k < f.lines.length := by rw [h.len]; exact hk
 have e1 : Li.at_ f.lines (k : Int) = f.lines.getD k 0 := by
   unfold Li.at_
   rw [if_neg (by omega), Int.toNat_natCast]
 have e2 : f.lines.getD k 0 = f.lines[k] := by simp [List.getD, hl]
 have e3 : f.code.getD k (0, 0) = f.code[k] := by simp [List.getD, hk]
 have hm := h.lines _ (List.getElem_mem hl)
 rw [← e2] at hm
 have hwl := hw.lines _ (List.getElem_mem hl)
 rw [← e2] at hwl
 have hr := h.ops _ (List.getElem_mem hk)
 rw [← e3] at hr
 have hwc := hw.code _ (List.getElem_mem hk)
 rw [← e3] at hwc
 unfold Li.may at hm
 simp only [Bool.and_eq_true, decide_eq_true_eq] at hm
 rw [Di.line_eq, e1]
 obtain ⟨p1, p2, _⟩ := In.parts_both (x := In.txt (f.lines.getD k 0)) (d := In.text (f.code.getD k (0, 0)).1 (f.code.getD k (0, 0)).2) (fine_txt _).1
 rw [head_ahead] at p1
 rw [tail_behind] at p2
 refine line_ok (n := f.lines.getD k 0) (x := f.code.getD k (0, 0)) ?_ hm.1 hm.2 ?_ ?_
 · rw [p1]
   exact In.num_txt hwl.1 hwl.2 rfl
 · rw [p2]
   exact itext_pos hr
 · rw [p2]
   exact In.read_text hr hwc.2.1 hwc.2.2
theorem line_end (f : F) (k : Nat) : Di.line f k ≠ end_ := by
 intro e
 have h1 : (32 : UInt8) ∈ (Di.line f k).data.toList := by rw [Di.line_eq]; simp
 rw [e] at h1
 exact absurd h1 (by decide)
theorem line_pos (f : F) (k : Nat) : (Di.line f k).size ≠ 0 := by
 have h4 : (ByteArray.mk #[32]).size = 1 := rfl
 rw [Di.line_eq, ByteArray.size_append, ByteArray.size_append]
 omega
def go : St → List ByteArray → Option St
 | t, [] => some t
 | t, s :: r => if (step t s).2 = 0 then go (step t s).1 r else none
theorem go_append : ∀ (a : List ByteArray) {t u : St} (b : List ByteArray), go t a = some u → go t (a ++ b) = go u b
 | [], t, u, b, h => by
   have : t = u := Option.some.inj h
   rw [this]
   rfl
 | s :: r, t, u, b, h => by
   have e : ∀ l, go t (s :: l) = if (step t s).2 = 0 then go (step t s).1 l else none := fun _ => rfl
   rw [e] at h
   rw [List.cons_append, e]
   by_cases h0 : (step t s).2 = 0
   · rw [if_pos h0] at h ⊢
     exact go_append r b h
   · rw [if_neg h0] at h
     cases h
theorem run_go : ∀ (L : List ByteArray) (n last : Nat) (t u : St), (∀ x ∈ L, x.size ≠ 0) → go t L = some u → ∃ m, run t last (numbered n (L ++ [ByteArray.empty])) = ((u, m), 0)
 | [], n, last, t, u, _, h => by
   have : t = u := Option.some.inj h
   subst this
   exact ⟨last, rfl⟩
 | s :: r, n, last, t, u, hp, h => by
   have e : go t (s :: r) = if (step t s).2 = 0 then go (step t s).1 r else none := rfl
   rw [e] at h
   by_cases h0 : (step t s).2 = 0
   · rw [if_pos h0] at h
     obtain ⟨m, hm⟩ := run_go r (n + 1) n (step t s).1 u (fun x hx => hp x (by simp [hx])) h
     refine ⟨m, ?_⟩
     have hn : numbered n (s :: r ++ [ByteArray.empty]) = (n, s) :: numbered (n + 1) (r ++ [ByteArray.empty]) := by
       conv => lhs; unfold numbered
       exact if_neg (hp s (by simp))
     rw [hn]
     show (if (step t s).2 = 0 then run (step t s).1 n (numbered (n + 1) (r ++ [ByteArray.empty])) else (((step t s).1, n), (step t s).2)) = _
     rw [if_pos h0]
     exact hm
   · rw [if_neg h0] at h
     cases h
def flines (f : F) : List ByteArray := Di.head f :: (List.range f.code.length).map (Di.line f) ++ [end_]
theorem words_upTo {f : F} (h : Nm.may f.name = true) : ∀ (k : Nat) (r : ByteArray), words 10 (Di.upTo f k ++ r) = Di.head f :: ((List.range k).map (Di.line f) ++ words 10 r)
 | 0, r => by
   rw [Di.upTo_zero, Di.nl, words_line (head_fine h)]
   rfl
 | k + 1, r => by
   rw [Di.upTo_succ, ByteArray.append_assoc, ByteArray.append_assoc, words_upTo h k, ← ByteArray.append_assoc, Di.nl, words_line (line_fine f k), List.range_succ, List.map_append, List.append_assoc]
   rfl
theorem words_func {f : F} (h : Nm.may f.name = true) (r : ByteArray) : words 10 (Di.func f ++ r) = flines f ++ words 10 r := by
 have he : Free 10 end_ := by
   intro y hy
   have : y ∈ ([101, 110, 100] : List UInt8) := hy
   simp only [List.mem_cons, List.not_mem_nil, or_false] at this
   rcases this with rfl | rfl | rfl <;> decide
 unfold Di.func
 rw [ByteArray.append_assoc, ByteArray.append_assoc, words_upTo h, ← ByteArray.append_assoc, Di.nl, show Di.fin = end_ from rfl, words_line he]
 unfold flines
 simp
theorem words_textTo {l : List F} (h : ∀ f ∈ l, Nm.may f.name = true) : ∀ {k : Nat} (_ : k ≤ l.length) (r : ByteArray), words 10 (Di.textTo l k ++ r) = (l.take k).flatMap flines ++ words 10 r
 | 0, _, r => by
   rw [Di.textTo, ByteArray.empty_append]
   rfl
 | k + 1, hk, r => by
   have e : l.getD k .zero = l[k] := by simp [List.getD, show k < l.length by omega]
   rw [Di.textTo, ByteArray.append_assoc, words_textTo h (by omega), e, words_func (h _ (List.getElem_mem _)), List.take_succ_eq_append_getElem (by omega), List.flatMap_append]
   simp
theorem words_text {l : List F} (h : ∀ f ∈ l, Nm.may f.name = true) : words 10 (Di.text l) = l.flatMap flines ++ [ByteArray.empty] := by
 have := words_textTo h (Nat.le_refl l.length) ByteArray.empty
 rw [ByteArray.append_empty, List.take_length] at this
 exact this
theorem go_lines {f : F} (h : Good f) (hw : f.Wf) (d : List F) : ∀ {k : Nat} (_ : k ≤ f.code.length), go ⟨d, bare0 f, true⟩ ((List.range k).map (Di.line f)) = some ⟨d, upto f k, true⟩
 | 0, _ => rfl
 | k + 1, hk => by
   have hl : k < f.lines.length := by rw [h.len]; omega
   rw [List.range_succ, List.map_append, go_append _ _ (go_lines h hw d (k := k) (by omega))]
   show (if (step ⟨d, upto f k, true⟩ (Di.line f k)).2 = 0 then some (step ⟨d, upto f k, true⟩ (Di.line f k)).1 else none) = _
   rw [step_line rfl (line_end f k), line_back h hw (by omega), if_pos rfl]
   unfold more1 upto
   rw [taken2 (by omega), Ru.taken hl 0]
theorem upto_all {f : F} (h : Good f) : upto f f.code.length = f := by
 unfold upto
 rw [List.take_length, ← h.len, List.take_length]
theorem go_func {f : F} (h : Good f) (hw : f.Wf) (d : List F) (c : F) : go ⟨d, c, false⟩ (flines f) = some ⟨d ++ [f], f, false⟩ := by
 have h0 : go ⟨d, c, false⟩ [Di.head f] = some ⟨d, bare0 f, true⟩ := by
   show (if (step ⟨d, c, false⟩ (Di.head f)).2 = 0 then some (step ⟨d, c, false⟩ (Di.head f)).1 else none) = _
   rw [step_shut rfl, head_back h, if_pos rfl]
 have e : flines f = [Di.head f] ++ ((List.range f.code.length).map (Di.line f) ++ [end_]) := by unfold flines; simp
 rw [e, go_append _ _ h0, go_append _ _ (go_lines h hw d (Nat.le_refl _)), upto_all h]
 show (if (step ⟨d, f, true⟩ end_).2 = 0 then some (step ⟨d, f, true⟩ end_).1 else none) = _
 rw [step_end rfl, if_pos rfl]
theorem go_funcs : ∀ (l : List F) (_ : ∀ f ∈ l, Good f ∧ f.Wf) (d : List F) (c : F), ∃ c', go ⟨d, c, false⟩ (l.flatMap flines) = some ⟨d ++ l, c', false⟩
 | [], _, d, c => ⟨c, by rw [List.append_nil]; rfl⟩
 | f :: r, h, d, c => by
   obtain ⟨c', hc⟩ := go_funcs r (fun g hg => h g (by simp [hg])) (d ++ [f]) f
   refine ⟨c', ?_⟩
   rw [List.flatMap_cons, go_append _ _ (go_func (h f (by simp)).1 (h f (by simp)).2 d c), hc, List.append_assoc]
   rfl
theorem flines_pos {f : F} (x : ByteArray) (hx : x ∈ flines f) : x.size ≠ 0 := by
 unfold flines at hx
 rcases List.mem_append.1 hx with hx | hx
 · rcases List.mem_cons.1 hx with rfl | hx
   · have hb : (Di.head f).data.toList ≠ [] := by
       unfold Di.head Di.words
       split
       · rw [show (Di.join (Di.five f ++ [Di.ty f.outer])).data.toList = _ from Di.foldl_list _ _]; simp [Di.begin_]
       · rw [show (Di.join (Di.five f)).data.toList = _ from Di.foldl_list _ _]; simp [Di.begin_]
     intro e
     rw [Lib.size_eq] at e
     exact hb (List.length_eq_zero_iff.1 e)
   · obtain ⟨k, _, rfl⟩ := List.mem_map.1 hx
     exact line_pos f k
 · obtain rfl := List.mem_singleton.1 hx
   decide
theorem read_back {l : List F} (h : Fl.can l = 0) (hw : ∀ f ∈ l, f.Wf) (hb : ∀ f ∈ l, f.bare = true) : read (Di.text l) = ((l, 0), 0) := by
 obtain ⟨h1, h2, h3, h4⟩ := Fl.can_ok.1 h
 obtain ⟨c', hc⟩ := go_funcs l (fun f hf => ⟨Good.of (h3 f hf) (hb f hf), hw f hf⟩) [] .zero
 obtain ⟨m, hm⟩ := run_go _ 1 1 .first _ (fun x hx => by obtain ⟨f, _, hx⟩ := List.mem_flatMap.1 hx; exact flines_pos x hx) hc
 unfold read lines
 rw [words_text (fun f hf => (Good.of (h3 f hf) (hb f hf)).name), hm]
 unfold readOf
 simp only [List.nil_append]
 rw [if_neg (by decide), if_neg (by rintro (e | e); cases e; omega), if_neg (by rw [h]; decide)]
end As
end Go.Proofs.YtmhmlhlplfkpaaaGreatDoor
