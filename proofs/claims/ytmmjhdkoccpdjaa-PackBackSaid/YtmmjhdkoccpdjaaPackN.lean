/- The mathematics of a name that is written: label by label. Conditions: none. -/
import Derived.Test.YtmmjhdkoccpdjaaPackL
import Derived.Test.YtmmjhdkoccpdjaaMath6
namespace Go.Proofs.Ytmmjhdkoccpdjaa
open Go

theorem startW_rests_len (q : Wr) (rest first : ByteArray) : (startW q rest first).limit = q.limit := by
  unfold startW; split
  · exact rawW_limit q first
  · exact rawW_limit q first

/-- What a name's labels leave, if no rest of it is pointed to. -/
def stepW (s : Wr × ByteArray) (l : ByteArray) : Wr × ByteArray := (startW s.1 s.2 (s.2.extract 0 (1 + l.size)), s.2.extract (1 + l.size) s.2.size)
def stW (n : ByteArray) (q : Wr) (pre : List ByteArray) : Wr × ByteArray := pre.foldl stepW (q, n)
theorem stW_snoc (n : ByteArray) (q : Wr) (pre : List ByteArray) (l : ByteArray) : stW n q (pre ++ [l]) = stepW (stW n q pre) l := by
  rw [stW, List.foldl_append]; rfl
/-- Whether the rest of a name is pointed to. -/
def hitW (pt : Bool) (s : Wr × ByteArray) : Bool := pt && (s.1.rests.lookup (bl s.2)).isSome
def ptrW (s : Wr × ByteArray) : Wr := rawW s.1 ⟨(nbs (49152 + (s.1.rests.lookup (bl s.2)).getD 0) 2).toArray⟩
def goW (pt : Bool) : List ByteArray → Wr × ByteArray → Wr
  | [], s => rawW s.1 ⟨#[0]⟩
  | l :: ls, s => if hitW pt s then ptrW s else goW pt ls (stepW s l)
/-- What Name and Full leave. -/
def nameW (q : Wr) (n : ByteArray) (pt : Bool) : Wr := if isName n then goW pt (labelsB n) (q, n) else q

theorem enc_drop (l : ByteArray) (r : List (List UInt8)) : (enc (bl l :: r)).drop (1 + l.size) = enc r := by
  show (UInt8.ofNat (bl l).length :: (bl l ++ enc r)).drop (1 + l.size) = _
  rw [Nat.add_comm, List.drop_succ_cons, ← bl_size, List.drop_left]
theorem st_rest : ∀ (pre post : List ByteArray) (s : Wr × ByteArray), bl s.2 = enc ((pre ++ post).map bl) → bl (pre.foldl stepW s).2 = enc (post.map bl)
  | [], _, _, h => h
  | l :: pre, post, s, h => by
    refine st_rest pre post (stepW s l) ?_
    show bl (s.2.extract (1 + l.size) s.2.size) = _
    rw [bl_extract, take_bl, h]
    exact enc_drop l _
/-- What is left of a name behind some of its labels. -/
theorem stW_rest {n : ByteArray} (hn : isName n = true) (q : Wr) (pre post : List ByteArray) (h : labelsB n = pre ++ post) : bl (stW n q pre).2 = enc (post.map bl) := by
  obtain ⟨ls, hr⟩ := rep_of_name hn
  refine st_rest pre post (q, n) ?_
  show bl n = _
  rw [hr.eq, ← hr.labels, h]
theorem lab_pos {s : ByteArray} (h : isName s = true) : ∀ x ∈ labelsB s, 1 ≤ x.size ∧ x.size ≤ 63 := by
  intro x hx
  obtain ⟨ls, hr⟩ := rep_of_name h
  have h1 := hr.labels
  have h2 : bl x ∈ ls := by rw [← h1]; exact List.mem_map_of_mem hx
  have := hr.ok _ h2
  rwa [bl_size] at this
/-- The next label is there, whole. -/
theorem stW_fits {n : ByteArray} (hn : isName n = true) (q : Wr) (pre : List ByteArray) (l : ByteArray) (post : List ByteArray) (h : labelsB n = pre ++ l :: post) :
    1 + l.size ≤ (stW n q pre).2.size ∧ (stW n q pre).2.size ≤ 255 ∧ ((stW n q pre).2.extract 0 (1 + l.size)).size = 1 + l.size := by
  have h1 := stW_rest hn q pre (l :: post) h
  have h2 := congrArg List.length h1
  rw [bl_size] at h2
  have h3 : (enc ((l :: post).map bl)).length = 1 + l.size + (enc (post.map bl)).length := by
    show (UInt8.ofNat (bl l).length :: (bl l ++ enc (post.map bl))).length = _
    rw [List.length_cons, List.length_append, bl_size]; omega
  have h4 : (stW n q pre).2.size ≤ 255 := by
    obtain ⟨ls, hr⟩ := rep_of_name hn
    have e1 := hr.labels
    rw [h, List.map_append] at e1
    have e2 := enc_drop_le (pre.map bl).length ls
    rw [← e1, List.drop_left, e1, ← hr.eq, bl_size] at e2
    have := hr.len
    omega
  refine ⟨by omega, h4, ?_⟩
  rw [ByteArray.size_extract]; omega
theorem st_ok : ∀ (pre : List ByteArray) (s : Wr × ByteArray) (post : List ByteArray), s.1.ok → bl s.2 = enc ((pre ++ post).map bl) → (∀ x ∈ pre, 1 ≤ x.size) → (pre.foldl stepW s).1.ok
  | [], _, _, h, _, _ => h
  | l :: pre, s, post, h, he, hx => by
    have h2 := congrArg List.length he
    rw [bl_size] at h2
    have h3 : (enc ((l :: (pre ++ post)).map bl)).length = 1 + l.size + (enc ((pre ++ post).map bl)).length := by
      show (UInt8.ofNat (bl l).length :: (bl l ++ enc ((pre ++ post).map bl))).length = _
      rw [List.length_cons, List.length_append, bl_size]; omega
    rw [List.cons_append, h3] at h2
    refine st_ok pre (stepW s l) post ?_ ?_ (fun x hx' => hx x (List.mem_cons_of_mem _ hx'))
    · refine startW_ok h _ _ ?_
      rw [ByteArray.size_extract]; omega
    · show bl (s.2.extract (1 + l.size) s.2.size) = _
      rw [bl_extract, take_bl, he]
      exact enc_drop l _
theorem stW_ok {n : ByteArray} (hn : isName n = true) {q : Wr} (hq : q.ok) (pre post : List ByteArray) (h : labelsB n = pre ++ post) : (stW n q pre).1.ok := by
  obtain ⟨ls, hr⟩ := rep_of_name hn
  refine st_ok pre (q, n) post hq ?_ (fun x hx => (lab_pos hn x (by rw [h]; exact List.mem_append_left _ hx)).1)
  show bl n = _
  rw [hr.eq, ← hr.labels, h]

end Go.Proofs.Ytmmjhdkoccpdjaa
