/- The mathematics of the plain answers about names: made of labels, up, within, in common, next. Conditions: none. -/
import Derived.Test.YtmmjhdkoccpdjaaMath5
import Derived.Test.YtmmjhdkoccpdjaaRefB
namespace Go.Proofs.Ytmmjhdkoccpdjaa
open Go

theorem rep_eq {s t : ByteArray} {ls : List (List UInt8)} (h : Rep s ls) (k : Rep t ls) : s = t := bl_inj (h.eq.trans k.eq.symm)
theorem encL_enc : ∀ (L : List ByteArray), encL L ++ [0] = enc (L.map bl)
  | [] => rfl
  | x :: r => by
    have h := encL_enc r
    show (UInt8.ofNat x.size :: x.data.toList) ++ encL r ++ [0] = UInt8.ofNat (bl x).length :: (bl x ++ enc (r.map bl))
    rw [← h, bl_size]
    simp [bl]
theorem enc_drop_le : ∀ (k : Nat) (ls : List (List UInt8)), (enc (ls.drop k)).length ≤ (enc ls).length
  | 0, ls => Nat.le_refl _
  | k + 1, [] => Nat.le_refl _
  | k + 1, l :: r => by
    have := enc_drop_le k r
    simp only [List.drop_succ_cons, enc, List.length_cons, List.length_append]
    omega
theorem make_rep {s : ByteArray} {ls : List (List UInt8)} (h : Rep s ls) (k : Nat) : Rep (makeB ((labelsB s).drop k)) (ls.drop k) := by
  have e : bl (makeB ((labelsB s).drop k)) = enc (ls.drop k) := by
    rw [makeB, bl_mk, encL_enc, List.map_drop, h.labels]
  refine ⟨fun x hx => h.ok x (List.mem_of_mem_drop hx), e, ?_⟩
  have h1 := enc_drop_le k ls
  rw [← bl_size, e]
  have h2 := h.len
  rw [← bl_size, h.eq] at h2
  omega
theorem labels_inj {L M : List ByteArray} (h : L.map bl = M.map bl) : L = M := by
  induction L generalizing M with
  | nil => cases M with | nil => rfl | cons _ _ => cases h
  | cons a r ih =>
    cases M with
    | nil => cases h
    | cons b q =>
      simp only [List.map_cons, List.cons.injEq] at h
      rw [bl_inj h.1, ih h.2]
/-- The names up from one, as the plain answer makes them. -/
def upM (s : ByteArray) (n : Nat) : List ByteArray := (List.range n).map fun i => makeB ((labelsB s).drop i)
theorem upM_succ (s : ByteArray) (n : Nat) : upM s (n + 1) = upM s n ++ [makeB ((labelsB s).drop n)] := by
  rw [upM, List.range_succ, List.map_append]; rfl
theorem upM_up : ∀ (ls : List (List UInt8)) (s : ByteArray), Rep s ls → upM s (ls.length + 1) = upB s
  | [], s, h => by
    have h1 : makeB ((labelsB s).drop 0) = s := rep_eq (make_rep h 0) h
    rw [upB_cons h.name, parent_root h, upB_none isName_empty]
    show [makeB ((labelsB s).drop 0)] = [s]
    rw [h1]
  | l :: r, s, h => by
    have hp := (parent_cons h).2
    have h1 : makeB ((labelsB s).drop 0) = s := rep_eq (make_rep h 0) h
    have h2 : labelsB (parentR s).1 = (labelsB s).drop 1 := labels_inj (by rw [hp.labels, List.map_drop, h.labels]; rfl)
    rw [upB_cons h.name, ← upM_up r _ hp]
    rw [upM, List.range_succ_eq_map, List.map_cons, h1]
    congr 1
    rw [List.map_map, upM, h2]
    refine List.map_congr_left fun i _ => ?_
    show makeB ((labelsB s).drop (i + 1)) = makeB (((labelsB s).drop 1).drop i)
    rw [List.drop_drop, Nat.add_comm 1 i]
/-- Lying within, as the plain answer asks it. -/
theorem within_make {s z : ByteArray} (hs : isName s = true) (hz : isName z = true) :
    withinB s z = (decide ((labelsB z).length ≤ (labelsB s).length) && ((foldS (makeB ((labelsB s).drop ((labelsB s).length - (labelsB z).length)))).toList == (foldS z).toList)) := by
  obtain ⟨ls, h⟩ := rep_of_name hs
  obtain ⟨zs, k⟩ := rep_of_name hz
  rw [h.count, k.count]
  have hm := (make_rep h (ls.length - zs.length)).fold
  have hk := k.fold
  rw [Bool.eq_iff_iff, within_iff h k]
  simp only [Bool.and_eq_true, decide_eq_true_eq, beq_iff_eq, toList_bl]
  rw [hm.eq, hk.eq, List.suffix_iff_eq_drop]
  have hf : ∀ n, fl (ls.drop n) = (fl ls).drop n := fun n => by unfold fl; rw [List.map_drop]
  rw [hf, fl_len, fl_len]
  constructor
  · intro e
    refine ⟨?_, by rw [← e]⟩
    have := congrArg List.length e
    rw [fl_len, List.length_drop, fl_len] at this
    omega
  · rintro ⟨_, e⟩
    refine (enc_inj ?_ hk.ok e).symm
    rw [← hf]; exact hm.ok
theorem depth_range {s z : ByteArray} : -1 ≤ depthB s z ∧ depthB s z ≤ s.size := by
  unfold depthB
  split
  · next hw =>
    cases hs : isName s with
    | false => rw [within_none (.inl hs)] at hw; cases hw
    | true =>
      cases hz : isName z with
      | false => rw [within_none (.inr hz)] at hw; cases hw
      | true =>
        have h1 := within_make hs hz
        rw [hw, eq_comm, Bool.and_eq_true, decide_eq_true_eq] at h1
        have := labelsB_length s
        omega
  · omega
/-- The one just below, as the plain answer finds it. -/
theorem next_make {z n : ByteArray} (hz : isName z = true) (hn : isName n = true) :
    (depthB n z < 1 → nextR z n = (⟨#[]⟩, 3)) ∧ (∀ d : Nat, depthB n z = (d : Int) + 1 → d < (upB n).length ∧ nextR z n = ((upB n)[d]?.getD ⟨#[]⟩, 0)) := by
  obtain ⟨ln, h⟩ := rep_of_name hn
  obtain ⟨lz, k⟩ := rep_of_name hz
  have hup := upM_up ln n h
  have hnx : nextR z n = match (upB n).find? (nextP z) with | some x => (x, 0) | none => (⟨#[]⟩, 3) := by
    rw [nextR, if_neg (by rw [hz, hn]; simp)]; rfl
  have hlen : (upB n).length = ln.length + 1 := by rw [← hup, upM]; simp
  have hget : ∀ i, i < (upB n).length → ∃ x, (upB n)[i]? = some x ∧ Rep x (ln.drop i) := fun i hi => by
    refine ⟨makeB ((labelsB n).drop i), ?_, make_rep h i⟩
    rw [← hup, upM, List.getElem?_map, List.getElem?_range (by omega)]
    rfl
  have hdep : ∀ (i : Nat) x, (upB n)[i]? = some x → nextP z x = true → depthB n z = (i : Int) + 1 := fun i x hx hp => by
    have hi : i < (upB n).length := by
      rcases Nat.lt_or_ge i (upB n).length with h' | h'
      · exact h'
      · rw [List.getElem?_eq_none h'] at hx; cases hx
    obtain ⟨x', hx', hr⟩ := hget i hi
    rw [hx] at hx'
    obtain rfl : x = x' := by cases hx'; rfl
    have hd : depthB x z = 1 := by simpa [nextP] using hp
    have hw : withinB x z = true := by
      unfold depthB at hd
      split at hd
      · assumption
      · omega
    have hsuf := (within_iff hr k).1 hw
    have hsuf2 : fl lz <:+ fl ln := hsuf.trans (fl_drop_suffix ln i)
    rw [depth_of hr k hsuf] at hd
    rw [depth_of h k hsuf2]
    rw [List.length_drop] at hd
    omega
  constructor
  · intro hlt
    rw [hnx]
    have : (upB n).find? (nextP z) = none := by
      rw [List.find?_eq_none]
      intro x hx hp
      obtain ⟨i, hi, rfl⟩ := List.getElem_of_mem hx
      have := hdep i _ (List.getElem?_eq_getElem hi) hp
      omega
    rw [this]
  · intro d hd
    have hw : withinB n z = true := by
      unfold depthB at hd
      split at hd
      · assumption
      · omega
    have hsuf := (within_iff h k).1 hw
    have hl := hsuf.length_le
    rw [fl_len, fl_len] at hl
    rw [depth_of h k hsuf] at hd
    have hdl : d < (upB n).length := by omega
    refine ⟨hdl, ?_⟩
    obtain ⟨x, hx, hr⟩ := hget d hdl
    have hp : nextP z x = true := by
      have hs2 : fl lz <:+ fl (ln.drop d) := by
        rw [List.suffix_iff_eq_drop] at hsuf ⊢
        rw [fl_len] at hsuf ⊢
        rw [fl_len] at hsuf ⊢
        have e1 : fl (ln.drop d) = (fl ln).drop d := by unfold fl; rw [List.map_drop]
        rw [e1, List.drop_drop, List.length_drop]
        rw [show d + (ln.length - d - lz.length) = ln.length - lz.length from by omega]
        exact hsuf
      rw [nextP, depth_of hr k hs2, List.length_drop]
      exact decide_eq_true (by omega)
    cases hf : (upB n).find? (nextP z) with
    | none => rw [List.find?_eq_none] at hf; exact absurd hp (hf _ (List.mem_of_getElem? hx))
    | some y =>
      obtain ⟨_, i, hi, hy, _⟩ := List.find?_eq_some_iff_getElem.1 hf
      have h1 := hdep i y (by rw [List.getElem?_eq_getElem hi, hy]) (List.find?_some hf)
      rw [depth_of h k hsuf] at h1
      obtain rfl : i = d := by omega
      rw [hnx, hf, List.getElem?_eq_getElem hi, hy]
      rfl

end Go.Proofs.Ytmmjhdkoccpdjaa
