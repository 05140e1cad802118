/- The mathematics of names that are written, and read: what was written with pointers is read as it was. Conditions: none. -/
import Derived.Test.YtmmjhdkoccpdjaaMath7
namespace Go.Proofs.Ytmmjhdkoccpdjaa
open Go

/-- From the place a on bytes tell labels: each pointer leads ahead of fm, or of where it led to last. e is behind the last byte, or the first pointer. -/
inductive Tells (bs : List UInt8) : Nat → Nat → List (List UInt8) → Nat → Prop
  | root {a fm : Nat} (h : bs.drop a = 0 :: bs.drop (a + 1)) (hl : a < bs.length) : Tells bs a fm [] (a + 1)
  | label {a fm e : Nat} {l : List UInt8} {r : List (List UInt8)} (h : bs.drop a = UInt8.ofNat l.length :: (l ++ bs.drop (a + 1 + l.length))) (h1 : 1 ≤ l.length) (h2 : l.length ≤ 63) (hl : a + 1 + l.length ≤ bs.length) (k : Tells bs (a + 1 + l.length) fm r e) : Tells bs a fm (l :: r) e
  | ptr {a fm t e : Nat} {ls : List (List UInt8)} (h : bs.drop a = UInt8.ofNat (192 + t / 256) :: UInt8.ofNat (t % 256) :: bs.drop (a + 2)) (hl : a + 2 ≤ bs.length) (ht : t < 16384) (hf : t < fm) (k : Tells bs t t ls e) : Tells bs a fm ls (a + 2)

theorem Tells.lt {bs : List UInt8} {a fm e : Nat} {ls : List (List UInt8)} (h : Tells bs a fm ls e) : a < bs.length := by
  cases h with
  | root _ hl => exact hl
  | label _ _ _ hl _ => omega
  | ptr _ hl _ _ _ => omega
theorem drop_more {bs x : List UInt8} {a : Nat} (h : a ≤ bs.length) : (bs ++ x).drop a = bs.drop a ++ x := by
  rw [List.drop_append, show a - bs.length = 0 by omega, List.drop_zero]
theorem Tells.more {bs : List UInt8} {a fm e : Nat} {ls : List (List UInt8)} (h : Tells bs a fm ls e) (x : List UInt8) : Tells (bs ++ x) a fm ls e := by
  induction h with
  | root h hl => exact .root (by rw [drop_more (by omega), drop_more (by omega), h]; rfl) (by rw [List.length_append]; omega)
  | label h h1 h2 hl k ih => exact .label (by rw [drop_more (by omega), drop_more (by omega), h]; simp) h1 h2 (by rw [List.length_append]; omega) ih
  | ptr h hl ht hf k ih => exact .ptr (by rw [drop_more (by omega), drop_more (by omega), h]; rfl) (by rw [List.length_append]; omega) ht hf ih
theorem Tells.from {bs : List UInt8} {a fm fm' e : Nat} {ls : List (List UInt8)} (h : Tells bs a fm ls e) (hf : fm ≤ fm') : Tells bs a fm' ls e := by
  induction h generalizing fm' with
  | root h hl => exact .root h hl
  | label h h1 h2 hl k ih => exact .label h h1 h2 hl (ih hf)
  | ptr h hl ht hf' k ih => exact .ptr h hl ht (by omega) k

theorem piece_of (s : ByteArray) (a : Nat) (l : List UInt8) (r : List UInt8) (h : (bl s).drop a = l ++ r) (hz : l.length = if 192 ≤ s[a]!.toNat then 2 else 1 + s[a]!.toNat) (ha : a < s.size) : bl (pieceR s a) = l := by
  have hlen := congrArg List.length h
  rw [List.length_drop, List.length_append, bl_size] at hlen
  rw [pieceR, if_neg (by omega), if_neg (by omega), bl_extract, ← hz, List.drop_take, h]
  rw [show a + l.length - a = l.length by omega, List.take_left]
theorem byte_of (s : ByteArray) (a : Nat) (c : UInt8) (r : List UInt8) (h : (bl s).drop a = c :: r) (ha : a < s.size) : s[a]! = c := by
  have hp : a < (bl s).length := ha
  rw [List.drop_eq_getElem_cons hp] at h
  rw [get_bl s a ha]
  simp only [List.cons.injEq] at h
  exact h.1
theorem first_of (p : ByteArray) (c : UInt8) (r : List UInt8) (h : bl p = c :: r) : p[0]! = c := by
  have hs : p.size = r.length + 1 := by rw [← bl_size, h]; rfl
  exact byte_of p 0 c r (by rw [List.drop_zero]; exact h) (by omega)
theorem second_of (p : ByteArray) (c d : UInt8) (r : List UInt8) (h : bl p = c :: d :: r) : p[1]! = d := by
  have hs : p.size = r.length + 2 := by rw [← bl_size, h]; rfl
  exact byte_of p 1 d r (by rw [h]; rfl) (by omega)

/-- What is told is gathered. -/
theorem gatherF_tells {s : ByteArray} {a fm e : Nat} {ls : List (List UInt8)} (h : Tells (bl s) a fm ls e) : ∀ (f : Nat) (n : List UInt8) (b : Nat) (q : Bool), n.length + (enc ls).length ≤ 255 → 255 - n.length + fm < f →
    gatherF s f n a fm b q = (n ++ enc ls, if q then b else e) := by
  induction h with
  | @root a fm h hl =>
    intro f n b q hn hf
    obtain ⟨f, rfl⟩ : ∃ f', f = f' + 1 := ⟨f - 1, by omega⟩
    have hl' : a < s.size := hl
    have hb := byte_of s a 0 _ h hl'
    have hp := piece_of s a [0] _ h (by rw [hb]; rfl) hl'
    have hsz : (pieceR s a).size = 1 := by rw [← bl_size, hp]; rfl
    have hn1 : n.length < 255 := by simp only [enc, List.length_singleton] at hn; omega
    rw [gatherF, if_pos hn1, if_neg (by omega), first_of _ 0 [] hp, if_neg (by decide), if_pos (by rw [toList_bl, hp]), hp, hsz]
    rfl
  | @label a fm e l r h h1 h2 hl k ih =>
    intro f n b q hn hf
    obtain ⟨f, rfl⟩ : ∃ f', f = f' + 1 := ⟨f - 1, by omega⟩
    have hl' : a < s.size := by rw [bl_size] at hl; omega
    have hb := byte_of s a _ _ h hl'
    have hlen : (UInt8.ofNat l.length).toNat = l.length := by simp; omega
    have hp := piece_of s a (UInt8.ofNat l.length :: l) _ (by rw [h]; rfl) (by rw [hb, hlen, if_neg (by omega), List.length_cons]; omega) hl'
    have hsz : (pieceR s a).size = 1 + l.length := by rw [← bl_size, hp, List.length_cons]; omega
    have hel : (enc (l :: r)).length = 1 + l.length + (enc r).length := by simp only [enc, List.length_cons, List.length_append]; omega
    rw [hel] at hn
    rw [gatherF, if_pos (by omega), if_neg (by omega), first_of _ _ _ hp, hlen, if_neg (by omega), if_neg (by rw [toList_bl, hp]; intro hc; simp only [List.cons.injEq] at hc; rw [hc.2] at h1; simp at h1), hp, hsz]
    rw [show a + (1 + l.length) = a + 1 + l.length by omega]
    rw [ih f _ _ _ (by rw [List.length_append, List.length_cons]; omega) (by rw [List.length_append, List.length_cons]; omega)]
    refine Prod.ext ?_ ?_
    · show n ++ UInt8.ofNat l.length :: l ++ enc r = n ++ UInt8.ofNat l.length :: (l ++ enc r)
      simp
    · show (if q = true then (if q = true then b else _) else e) = if q = true then b else e
      cases q <;> rfl
  | @ptr a fm t e ls h hl ht hf' k ih =>
    intro f n b q hn hf
    obtain ⟨f, rfl⟩ : ∃ f', f = f' + 1 := ⟨f - 1, by omega⟩
    have hl' : a < s.size := by rw [bl_size] at hl; omega
    have hb := byte_of s a _ _ h hl'
    have hlen : (UInt8.ofNat (192 + t / 256)).toNat = 192 + t / 256 := by simp; omega
    have hlen2 : (UInt8.ofNat (t % 256)).toNat = t % 256 := by simp
    have hp := piece_of s a [UInt8.ofNat (192 + t / 256), UInt8.ofNat (t % 256)] _ (by rw [h]; rfl) (by rw [hb, hlen, if_pos (by omega)]; rfl) hl'
    have hsz : (pieceR s a).size = 2 := by rw [← bl_size, hp]; rfl
    have htg : targetR (pieceR s a) = t := by
      rw [targetR, first_of _ _ _ hp, second_of _ _ _ _ hp, hlen, hlen2]; omega
    have hep := enc_pos ls
    rw [gatherF, if_pos (by omega), if_neg (by omega), first_of _ _ _ hp, hlen, if_pos (by omega), htg, if_neg (by omega), hsz]
    rw [ih f _ _ _ hn (by omega)]
    rfl
theorem gather_tells {s : ByteArray} {a e : Nat} {ls : List (List UInt8)} (h : Tells (bl s) a a ls e) (hn : (enc ls).length ≤ 255) : gatherR s a = (enc ls, e) := by
  have := gatherF_tells h (257 + a) [] a false (by simpa using hn) (by rw [List.length_nil]; omega)
  rw [gatherR, this]; rfl

/-- What a writer has noted tells what it says. -/
def Noted (bs : List UInt8) (x : List UInt8 × Nat) : Prop := ∃ ls e, OkL ls ∧ x.1 = enc ls ∧ Tells bs x.2 x.2 ls e
def Wr.inv (q : Wr) : Prop := ∀ x ∈ q.rests, Noted q.bytes x
theorem Noted.more {bs : List UInt8} {x : List UInt8 × Nat} (h : Noted bs x) (y : List UInt8) : Noted (bs ++ y) x := by
  obtain ⟨ls, e, h1, h2, h3⟩ := h
  exact ⟨ls, e, h1, h2, h3.more y⟩
/-- What is noted of a name that is being written. -/
def Pend (bs : List UInt8) (p0 : Nat) (L : List (List UInt8)) (x : List UInt8 × Nat) : Prop :=
  p0 ≤ x.2 ∧ x.2 ≤ bs.length ∧ ∃ D : List (List UInt8), D ≠ [] ∧ OkL (D ++ L) ∧ x.1 = enc (D ++ L) ∧ ∀ y e, Tells (bs ++ y) bs.length x.2 L e → Tells (bs ++ y) x.2 x.2 (D ++ L) e

theorem rawW_fit {q : Wr} {s : ByteArray} (hf : q.full = false) (h : ((q.bytes.length + s.size : Nat) : Int) ≤ q.limit) : rawW q s = { q with bytes := q.bytes ++ bl s } := by
  unfold rawW
  split
  · next hc =>
    rcases hc with hc | hc
    · have : bl s = [] := List.eq_nil_of_length_eq_zero hc
      rw [this, List.append_nil]
    · rw [hf] at hc; cases hc
  · rw [if_neg (by omega)]
theorem nbs_ptr (t : Nat) (ht : t < 16384) : nbs (49152 + t) 2 = [UInt8.ofNat (192 + t / 256), UInt8.ofNat (t % 256)] := by
  show [byB (49152 + t) 1, byB (49152 + t) 0] = _
  have e1 : (49152 + t) / 256 ^ 1 % 256 = 192 + t / 256 := by omega
  have e2 : (49152 + t) / 256 ^ 0 % 256 = t % 256 := by omega
  rw [byB, byB, e1, e2]
theorem lookup_mem2 : ∀ (l : List (List UInt8 × Nat)) (k : List UInt8) (v : Nat), l.lookup k = some v → (k, v) ∈ l
  | [], _, _, h => by cases h
  | (a, b) :: r, k, v, h => by
    rw [List.lookup] at h
    split at h
    · next he =>
      cases h
      rw [beq_iff_eq] at he
      rw [he]; simp
    · exact List.mem_cons_of_mem _ (lookup_mem2 r k v h)
theorem append_self {D L : List (List UInt8)} (h : D ++ L = L) : D = [] := by
  have := congrArg List.length h
  rw [List.length_append] at this
  exact List.eq_nil_of_length_eq_zero (by omega)

/-- What a name's labels leave: what was written is told, what is noted tells what it says. -/
theorem goW_tells (pt : Bool) (p0 : Nat) : ∀ (L : List ByteArray) (q : Wr) (rest : ByteArray), q.full = false → bl rest = enc (L.map bl) → OkL (L.map bl) → p0 ≤ q.bytes.length →
    (((q.bytes.length + (enc (L.map bl)).length : Nat) : Int) ≤ q.limit) → (∀ x ∈ q.rests, x.2 < 16384) →
    (∀ x ∈ q.rests, (x.2 < p0 ∧ Noted q.bytes x) ∨ Pend q.bytes p0 (L.map bl) x) →
    ∃ y, (goW pt L (q, rest)).bytes = q.bytes ++ y ∧ y.length ≤ (enc (L.map bl)).length ∧ (goW pt L (q, rest)).full = false ∧ (goW pt L (q, rest)).limit = q.limit ∧ (∀ fm, p0 ≤ fm → Tells (q.bytes ++ y) q.bytes.length fm (L.map bl) (q.bytes ++ y).length) ∧ (goW pt L (q, rest)).inv
  | [], q, rest, hf, hr, ho, hp, hl, hv, hi => by
    have e : goW pt [] (q, rest) = { q with bytes := q.bytes ++ [0] } := rawW_fit hf (by exact hl)
    have ht : ∀ fm, Tells (q.bytes ++ [0]) q.bytes.length fm [] (q.bytes ++ [0]).length := fun fm => by
      have := Tells.root (bs := q.bytes ++ [0]) (a := q.bytes.length) (fm := fm) (by rw [List.drop_left, List.drop_eq_nil_of_le (by simp)]) (by simp)
      simpa using this
    rw [e]
    refine ⟨[0], rfl, Nat.le_refl _, hf, rfl, fun fm _ => ht fm, fun x hx => ?_⟩
    rcases hi x hx with ⟨_, h⟩ | ⟨_, _, D, _, h2, h3, h4⟩
    · exact h.more _
    · exact ⟨D ++ [], _, h2, h3, h4 [0] _ (ht _)⟩
  | l :: L, q, rest, hf, hr, ho, hp, hl, hv, hi => by
    have hol := ho.head
    rw [bl_size] at hol
    have hel : (enc ((l :: L).map bl)).length = 1 + l.size + (enc (L.map bl)).length := by
      show (UInt8.ofNat (bl l).length :: (bl l ++ enc (L.map bl))).length = _
      rw [List.length_cons, List.length_append, bl_size]; omega
    have hep := enc_pos (L.map bl)
    cases hh : hitW pt (q, rest) with
    | true =>
      have e0 : goW pt (l :: L) (q, rest) = ptrW (q, rest) := by rw [goW, if_pos hh]
      simp only [hitW, Bool.and_eq_true] at hh
      obtain ⟨v, hlk⟩ := Option.isSome_iff_exists.1 hh.2
      have hm := lookup_mem2 _ _ _ hlk
      have hv' := hv _ hm
      simp only at hv'
      have e1 : ptrW (q, rest) = rawW q ⟨(nbs (49152 + v) 2).toArray⟩ := by rw [ptrW]; simp only [hlk]; rfl
      have e2 : rawW q ⟨(nbs (49152 + v) 2).toArray⟩ = { q with bytes := q.bytes ++ [UInt8.ofNat (192 + v / 256), UInt8.ofNat (v % 256)] } := by
        rw [nbs_ptr v hv']
        rw [rawW_fit hf (by rw [hel] at hl; show ((q.bytes.length + 2 : Nat) : Int) ≤ q.limit; omega), bl_mk]
      have hg : v < p0 ∧ ∃ e, Tells q.bytes v v ((l :: L).map bl) e := by
        rcases hi _ hm with ⟨h1, ls, e, h2, h3, h4⟩ | ⟨_, _, D, h1, h2, h3, _⟩
        · refine ⟨h1, e, ?_⟩
          simp only at h3
          rw [hr] at h3
          rw [enc_inj ho h2 h3]; exact h4
        · exfalso
          simp only at h3
          rw [hr] at h3
          exact h1 (append_self (enc_inj h2 ho h3.symm))
      obtain ⟨hg1, e, hg2⟩ := hg
      have ht : ∀ fm, p0 ≤ fm → Tells (q.bytes ++ [UInt8.ofNat (192 + v / 256), UInt8.ofNat (v % 256)]) q.bytes.length fm ((l :: L).map bl) (q.bytes ++ [UInt8.ofNat (192 + v / 256), UInt8.ofNat (v % 256)]).length := fun fm hfm => by
        have := Tells.ptr (bs := q.bytes ++ [UInt8.ofNat (192 + v / 256), UInt8.ofNat (v % 256)]) (a := q.bytes.length) (fm := fm) (t := v) (by rw [List.drop_left, List.drop_eq_nil_of_le (by simp)]) (by simp) hv' (by omega) (hg2.more _)
        simpa using this
      rw [e0, e1, e2]
      refine ⟨_, rfl, by rw [hel]; simp; omega, hf, rfl, ht, fun x hx => ?_⟩
      rcases hi x hx with ⟨_, h⟩ | ⟨h0, _, D, _, h2, h3, h4⟩
      · exact h.more _
      · exact ⟨_, _, h2, h3, h4 _ _ (ht _ h0)⟩
    | false =>
      have e0 : goW pt (l :: L) (q, rest) = goW pt L (stepW (q, rest) l) := by rw [goW, if_neg (by rw [hh]; simp)]
      have hrs : rest.size = 1 + l.size + (enc (L.map bl)).length := by rw [← bl_size, hr, hel]
      have hfirst : bl (rest.extract 0 (1 + l.size)) = UInt8.ofNat l.size :: bl l := by
        rw [bl_extract, List.drop_zero, hr]
        show (UInt8.ofNat (bl l).length :: (bl l ++ enc (L.map bl))).take (1 + l.size) = _
        rw [Nat.add_comm, List.take_succ_cons, bl_size, ← bl_size, List.take_left]
      have hfs : (rest.extract 0 (1 + l.size)).size = 1 + l.size := by rw [ByteArray.size_extract]; omega
      rw [hel] at hl
      have hraw := rawW_fit (s := rest.extract 0 (1 + l.size)) hf (by rw [hfs]; omega)
      rw [hfirst] at hraw
      have hrest : bl (rest.extract (1 + l.size) rest.size) = enc (L.map bl) := by
        rw [bl_extract, take_bl, hr]
        exact enc_drop l _
      obtain ⟨q1, hq1⟩ : ∃ q1, startW q rest (rest.extract 0 (1 + l.size)) = q1 := ⟨_, rfl⟩
      have hst : stepW (q, rest) l = (q1, rest.extract (1 + l.size) rest.size) := by rw [← hq1]; rfl
      have hb1 : q1.bytes = q.bytes ++ (UInt8.ofNat l.size :: bl l) := by
        rw [← hq1, startW]; split <;> rw [hraw]
      have hf1 : q1.full = false := by rw [← hq1, startW]; split <;> (rw [hraw]; exact hf)
      have hl1 : q1.limit = q.limit := by rw [← hq1, startW]; split <;> rw [hraw]
      have hr1 : ∀ x ∈ q1.rests, x ∈ q.rests ∨ (x = (bl rest, q.bytes.length) ∧ q.bytes.length < 16384) := by
        intro x hx
        rw [← hq1, startW] at hx
        split at hx
        · next hc =>
          rcases List.mem_cons.1 hx with hx | hx
          · exact .inr ⟨hx, hc.2.2⟩
          · exact .inl hx
        · rw [hraw] at hx; exact .inl hx
      have hlen1 : q1.bytes.length = q.bytes.length + 1 + l.size := by rw [hb1, List.length_append, List.length_cons, bl_size]; omega
      have hlab : ∀ y fm e, Tells (q1.bytes ++ y) q1.bytes.length fm (L.map bl) e → Tells (q1.bytes ++ y) q.bytes.length fm ((l :: L).map bl) e := fun y fm e h => by
        refine Tells.label (l := bl l) ?_ (by rw [bl_size]; omega) (by rw [bl_size]; omega) (by rw [bl_size, List.length_append]; omega) ?_
        · rw [bl_size, show q.bytes.length + 1 + l.size = q1.bytes.length by omega, List.drop_left, hb1]
          rw [List.append_assoc, List.drop_left]
          rfl
        · rw [bl_size, show q.bytes.length + 1 + l.size = q1.bytes.length by omega]; exact h
      obtain ⟨y, i1, i2, i3, i4, i5, i6⟩ := goW_tells pt p0 L q1 (rest.extract (1 + l.size) rest.size) hf1 hrest ho.tail (by omega) (by rw [hl1]; omega)
        (fun x hx => (hr1 x hx).elim (hv x) (fun h => by rw [h.1]; exact h.2))
        (fun x hx => by
          rcases hr1 x hx with hx | ⟨rfl, _⟩
          · rcases hi x hx with ⟨h1, h2⟩ | ⟨h0, h0', D, h1, h2, h3, h4⟩
            · exact .inl ⟨h1, by rw [hb1]; exact h2.more _⟩
            · refine .inr ⟨h0, by omega, D ++ [bl l], by simp, by simpa using h2, by simpa using h3, fun y e h => ?_⟩
              have := h4 ((UInt8.ofNat l.size :: bl l) ++ y) e
              rw [← List.append_assoc, ← hb1] at this
              simpa using this (hlab y _ e h)
          · refine .inr ⟨hp, by show q.bytes.length ≤ _; omega, [bl l], by simp, by simpa using ho, by simpa using hr, fun y e h => ?_⟩
            exact hlab y _ e h)
      rw [e0, hst]
      refine ⟨(UInt8.ofNat l.size :: bl l) ++ y, by rw [i1, hb1, List.append_assoc], by rw [hel, List.length_append, List.length_cons, bl_size]; omega, i3, by rw [i4, hl1], fun fm hfm => ?_, i6⟩
      have h1 := hlab y fm _ (i5 fm hfm)
      rw [hb1, List.append_assoc] at h1
      exact h1

/-- What Name and Full leave, where it fits. -/
theorem nameW_tells {q : Wr} {n : ByteArray} (pt : Bool) {ls : List (List UInt8)} (hr : Rep n ls) (hf : q.full = false) (hl : ((q.bytes.length + n.size : Nat) : Int) ≤ q.limit) (hv : ∀ x ∈ q.rests, x.2 < 16384) (hi : q.inv) :
    ∃ y, (nameW q n pt).bytes = q.bytes ++ y ∧ y.length ≤ n.size ∧ (nameW q n pt).full = false ∧ (nameW q n pt).limit = q.limit ∧ Tells (q.bytes ++ y) q.bytes.length q.bytes.length ls (q.bytes ++ y).length ∧ (nameW q n pt).inv := by
  have e : nameW q n pt = goW pt (labelsB n) (q, n) := by rw [nameW, if_pos hr.name]
  have hen : bl n = enc ((labelsB n).map bl) := by rw [hr.labels]; exact hr.eq
  have hsz : (enc ((labelsB n).map bl)).length = n.size := by rw [← hen, bl_size]
  rw [e]
  obtain ⟨y, i1, i2, i3, i4, i5, i6⟩ := goW_tells pt q.bytes.length (labelsB n) q n hf hen (by rw [hr.labels]; exact hr.ok) (Nat.le_refl _) (by rw [hsz]; exact hl) hv (fun x hx => .inl ⟨by
    obtain ⟨ls, e, _, _, h⟩ := hi x hx
    exact h.lt, hi x hx⟩)
  refine ⟨y, i1, by rw [← hsz]; exact i2, i3, i4, ?_, i6⟩
  have := i5 q.bytes.length (Nat.le_refl _)
  rw [hr.labels] at this
  exact this
theorem nameW_ok {q : Wr} (n : ByteArray) (pt : Bool) (hq : q.ok) : (nameW q n pt).ok := by
  unfold nameW
  split
  · next hn =>
    obtain ⟨ls, hr⟩ := rep_of_name hn
    have go : ∀ (L : List ByteArray) (q : Wr) (rest : ByteArray), q.ok → bl rest = enc (L.map bl) → OkL (L.map bl) → (goW pt L (q, rest)).ok := by
      intro L
      induction L with
      | nil => intro q rest h _ _; exact rawW_ok h _
      | cons l L ih =>
        intro q rest h he ho
        rw [goW]
        split
        · exact rawW_ok h _
        · refine ih _ _ ?_ ?_ ho.tail
          · refine startW_ok h _ _ ?_
            have hel : (enc ((l :: L).map bl)).length = 1 + l.size + (enc (L.map bl)).length := by
              show (UInt8.ofNat (bl l).length :: (bl l ++ enc (L.map bl))).length = _
              rw [List.length_cons, List.length_append, bl_size]; omega
            have hrs : rest.size = 1 + l.size + (enc (L.map bl)).length := by rw [← bl_size, he, hel]
            show 1 ≤ (rest.extract 0 (1 + l.size)).size
            rw [ByteArray.size_extract]; omega
          · show bl (rest.extract (1 + l.size) rest.size) = _
            rw [bl_extract, take_bl, he]
            exact enc_drop l _
    exact go _ _ _ hq (by rw [hr.labels]; exact hr.eq) (by rw [hr.labels]; exact hr.ok)
  · exact hq

end Go.Proofs.Ytmmjhdkoccpdjaa
