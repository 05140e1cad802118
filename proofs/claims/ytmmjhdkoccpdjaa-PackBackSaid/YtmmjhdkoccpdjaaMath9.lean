/- Names one behind the other: told, one by one. Conditions: none. -/
import Derived.Test.YtmmjhdkoccpdjaaMath8
namespace Go.Proofs.Ytmmjhdkoccpdjaa
open Go

/-- From a on bytes tell names, one behind the other, up to e. -/
def TellsN (bs : List UInt8) : Nat → List ByteArray → Nat → Prop
  | a, [], e => a = e
  | a, n :: r, e => ∃ ls m, Rep n ls ∧ Tells bs a a ls m ∧ TellsN bs m r e
theorem TellsN.more {bs : List UInt8} (x : List UInt8) : ∀ {l : List ByteArray} {a e : Nat}, TellsN bs a l e → TellsN (bs ++ x) a l e
  | [], _, _, h => h
  | _ :: _, _, _, ⟨ls, m, h1, h2, h3⟩ => ⟨ls, m, h1, h2.more x, h3.more x⟩
theorem TellsN.snoc {bs : List UInt8} : ∀ {l : List ByteArray} {a e : Nat} {n : ByteArray} {ls : List (List UInt8)} {m : Nat}, TellsN bs a l e → Rep n ls → Tells bs e e ls m → TellsN bs a (l ++ [n]) m
  | [], _, _, _, ls, m, h, hr, ht => by obtain rfl := h; exact ⟨ls, m, hr, ht, rfl⟩
  | _ :: _, _, _, _, _, _, ⟨ls', m', h1, h2, h3⟩, hr, ht => ⟨ls', m', h1, h2, h3.snoc hr ht⟩
theorem rep_len {n : ByteArray} {ls : List (List UInt8)} (h : Rep n ls) : (enc ls).length ≤ 255 := by rw [← h.eq, bl_size]; exact h.len
/-- A name that is told is read. -/
theorem nameR_tells {s n : ByteArray} {ls : List (List UInt8)} {a e : Nat} (hr : Rep n ls) (h : Tells (bl s) a a ls e) : nameR ⟨s, a, false⟩ = (n, ⟨s, e, false⟩) := by
  have hg := gather_tells h (rep_len hr)
  have hn : (⟨(enc ls).toArray⟩ : ByteArray) = n := bl_inj (by rw [bl_mk, hr.eq])
  rw [nameR]
  simp only [hg, hn, hr.name, if_true]
theorem Tells.le {bs : List UInt8} {a fm e : Nat} {ls : List (List UInt8)} (h : Tells bs a fm ls e) : e ≤ bs.length := by
  induction h with
  | root _ hl => omega
  | label _ _ _ _ _ ih => exact ih
  | ptr _ hl _ _ _ _ => exact hl

def sumS (l : List ByteArray) : Nat := (l.map ByteArray.size).sum
theorem sumS_snoc (l : List ByteArray) (x : ByteArray) : sumS (l ++ [x]) = sumS l + x.size := by simp [sumS]
theorem sumS_le (l : List ByteArray) (h : ∀ x ∈ l, x.size ≤ 255) : sumS l ≤ 255 * l.length := by
  induction l with
  | nil => simp [sumS]
  | cons a r ih =>
    have h1 := h a (by simp)
    have h2 := ih (fun x hx => h x (by simp [hx]))
    simp only [sumS, List.map_cons, List.sum_cons, List.length_cons] at h2 ⊢
    omega
/-- What a writer has behind some names. -/
structure Good (ahead : ByteArray) (kp : List ByteArray) (q : Wr) : Prop where
  ok : q.ok
  full : q.full = false
  limit : q.limit = 65536
  inv : q.inv
  len : q.bytes.length ≤ ahead.size + sumS kp
  head : q.bytes.take ahead.size = bl ahead
  hlen : ahead.size ≤ q.bytes.length
  tells : TellsN q.bytes ahead.size kp q.bytes.length
theorem Good.start (ahead : ByteArray) (h : ahead.size ≤ 4096) : Good ahead [] (rawW ⟨[], 65536, false, []⟩ ahead) := by
  have e : rawW ⟨[], 65536, false, []⟩ ahead = ⟨bl ahead, 65536, false, []⟩ := by
    rw [rawW_fit rfl (by simp; omega)]; rfl
  have ho : (⟨[], 65536, false, []⟩ : Wr).ok := by decide +kernel
  refine ⟨rawW_ok ho _, by rw [e], by rw [e], by rw [e]; intro x hx; simp at hx, by rw [e]; simp [sumS, bl_size], ?_, by rw [e]; simp [bl_size], by rw [e]; exact bl_size ahead |>.symm⟩
  rw [e]
  exact take_bl ahead
theorem Good.name {ahead : ByteArray} {kp : List ByteArray} {q : Wr} (h : Good ahead kp q) (ha : ahead.size ≤ 4096) (hk : kp.length ≤ 60) (hks : ∀ x ∈ kp, x.size ≤ 255) {n : ByteArray} {ls : List (List UInt8)} (hr : Rep n ls) (pt : Bool) : Good ahead (kp ++ [n]) (nameW q n pt) := by
  have h1 := sumS_le kp hks
  have h2 := hr.len
  have h3 := h.len
  obtain ⟨y, i1, i2, i3, i4, i5, i6⟩ := nameW_tells pt hr h.full (by rw [h.limit]; omega) (fun x hx => h.ok.2.2.2.2 x hx) h.inv
  have h4 := h.hlen
  refine ⟨nameW_ok n pt h.ok, i3, by rw [i4, h.limit], i6, ?_, ?_, ?_, ?_⟩
  · rw [i1, List.length_append, sumS_snoc]; omega
  · rw [i1, List.take_append, show ahead.size - q.bytes.length = 0 by omega, List.take_zero, List.append_nil]; exact h.head
  · rw [i1, List.length_append]; omega
  · rw [i1]
    exact (h.tells.more y).snoc hr i5

end Go.Proofs.Ytmmjhdkoccpdjaa
