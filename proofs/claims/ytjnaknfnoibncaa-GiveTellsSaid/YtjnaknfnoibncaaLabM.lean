/- Several texts in one (Build LabG LabH LabI LabJ LabK LabL). Conditions: each says its own. -/
import Derived.Test.YtjnaknfnoibncaaBaseM
import Derived.Shelf.Strings.Builder1
import Derived.Lib.Hide
import Derived.Test.YtjnaknfnoibncaaProg
import Derived.StillTactics

/- What strings.Builder's WriteByte, WriteString and String do to a builder in a block of its own, whose row lies at or behind a given block. Conditions: the text is no longer than 2^47 bytes; String is asked of a text that is not empty. -/
namespace Go.Proofs.Ytjnaknfnoibncaa
open Go Go.RowKit Go.Shelf

theorem infoByte : (Try.prog.info? 5).map (fun i => (i.zero, i.size, i.bytes)) = some (some (.int .u8 0), 1, 1) := by kernel_rfl
theorem cellsByte : Try.prog.cellsOf 5 = 1 := by kernel_rfl
end Go.Proofs.Ytjnaknfnoibncaa

/- What label's Join does. Conditions: strings that Go can hold; as many labels as a slice can have. -/
namespace Go.Proofs.Ytjnaknfnoibncaa
open Go Go.RowKit Go.Shelf

/-- The slice value sv holds the strings ss. -/
def Strs (W : World) (sv : Value) (ss : List ByteArray) : Prop :=
  (sv = .slice none 0 0 ∧ ss = []) ∨ ∃ b off cap, sv = .slice (some ⟨b, off, none⟩) ss.length cap ∧ ∀ j, j < ss.length → W.cell? ⟨b, off + j, none⟩ = some (.string (ss[j]?.getD ⟨#[]⟩))
theorem Strs.ext {A B : World} (h : Ext A B) {sv : Value} {ss : List ByteArray} : Strs A sv ss → Strs B sv ss
  | .inl e => .inl e
  | .inr ⟨b, off, cap, e, hc⟩ => .inr ⟨b, off, cap, e, fun j hj => h.keeps.cell (hc j hj) trivial⟩
theorem take_snoc {α : Type} (l : List α) (k : Nat) (d : α) (h : k < l.length) : l.take (k + 1) = l.take k ++ [l[k]?.getD d] := by
  rw [List.take_succ_eq_append_getElem h, List.getElem?_eq_getElem h]; rfl

end Go.Proofs.Ytjnaknfnoibncaa

/- What label's printByte and Print do. Conditions: strings that Go can hold. -/
namespace Go.Proofs.Ytjnaknfnoibncaa
open Go Go.RowKit Go.Shelf
attribute [local go_sem] Oper.semAt_some wide_fn wide_depth

end Go.Proofs.Ytjnaknfnoibncaa

/- What label's readByte does. Conditions: a text that is not empty, and that Go can hold. -/
namespace Go.Proofs.Ytjnaknfnoibncaa
open Go Go.RowKit Go.Shelf

theorem tup2 {a a' : Int} {b b' : Int} (ha : a = a') (hb : b = b') : Ending.returned (.tuple #[.int .u8 a, .int .i64 b]) = Ending.returned (.tuple #[.int .u8 a', .int .i64 b']) := by rw [ha, hb]

end Go.Proofs.Ytjnaknfnoibncaa

/- What label's cutLabel does. Conditions: a text that Go can hold, of at most 2^47 bytes. -/
namespace Go.Proofs.Ytjnaknfnoibncaa
open Go Go.RowKit Go.Shelf

set_option maxRecDepth 100000 in
set_option maxHeartbeats 1000000 in
theorem hasPrefix_any (s : ByteArray) (w : World) (hs : s.size ≤ maxLen) :
    Calls Try.prog 78 #[.string s, .string ⟨#[46]⟩] w fun e w' => e = .returned (.bool (decide (1 ≤ s.size ∧ ((s.extract 0 1).toList == [46]) = true))) ∧ w' = w := by
  unfold maxLen at hs
  by_cases h1 : 1 ≤ s.size
  · cases h2 : ((s.extract 0 1).toList == [46]) with
    | true =>
      go_enter Try.func78, Try.ntmps78
      go_wp2
      go_ret
      exact ⟨by simp [h1], rfl⟩
    | false =>
      go_enter Try.func78, Try.ntmps78
      go_wp2
      go_ret
      exact ⟨by simp, rfl⟩
  · go_enter Try.func78, Try.ntmps78
    go_wp2
    go_ret
    exact ⟨by simp, rfl⟩

end Go.Proofs.Ytjnaknfnoibncaa

/- What label's split and Parse do. Conditions: for split a text of at most 4096 bytes; for Parse one that Go can hold. -/
namespace Go.Proofs.Ytjnaknfnoibncaa
open Go Go.RowKit Go.Shelf

theorem infoString : (Try.prog.info? 9).map (fun i => (i.zero, i.size, i.bytes)) = some (some (.string ⟨#[]⟩), 1, 16) := by kernel_rfl

def SplitPost (s : ByteArray) (w : World) (e : Ending) (w' : World) : Prop :=
  Ext w w' ∧ match splitK s with
  | none => e = .returned (.tuple #[.slice none 0 0, .int .i64 6])
  | some ls => ∃ v, e = .returned (.tuple #[v, .int .i64 0]) ∧ Strs w' v ls

theorem strs_of_row {w : World} {base : Nat} {v : Value} {ls : List ByteArray} (h : w.ownsRow base 9 1 v ls.length (ls.map Value.string)) : Strs w v ls := by
  rcases h.2 with ⟨rfl, h0⟩ | ⟨g, cap, cur, rfl, hg, hh, r⟩
  · exact .inl ⟨rfl, List.eq_nil_of_length_eq_zero h0⟩
  · refine .inr ⟨g, 0, cap, rfl, fun j hj => ?_⟩
    have := h.cells (g := g) rfl j (.string (ls[j]?.getD ⟨#[]⟩)) (by simp [hj])
    have hp : (⟨g, 0 + j, none⟩ : Addr) = ⟨g, j, none⟩ := by simp
    have hp' : (⟨g, 0, none⟩ : Addr).add j = ⟨g, j, none⟩ := by unfold Addr.add; split <;> simp_all
    rw [hp]
    rw [hp'] at this
    exact this

end Go.Proofs.Ytjnaknfnoibncaa

/- What label's Parse does. Conditions: a text that Go can hold. -/
namespace Go.Proofs.Ytjnaknfnoibncaa
open Go Go.RowKit Go.Shelf

theorem splitR_len : ∀ (n : Nat) (t : ByteArray), t.size ≤ n → ∀ l, splitR t = some l → l.length ≤ t.size ∧ ∀ x ∈ l, x.size ≤ t.size := by
  intro n
  induction n with
  | zero =>
    intro t ht l h
    rw [splitR_nil (by omega)] at h
    cases h
    simp
  | succ n ih =>
    intro t ht l h
    by_cases h0 : t.size = 0
    · rw [splitR_nil h0] at h; cases h; simp
    · by_cases hc : (cutR t).2.2 = 0
      · obtain ⟨h1, h2, h3⟩ := splitR_go h0 hc
        rw [h1] at h
        obtain ⟨l', h4, h5⟩ := Option.map_eq_some_iff.1 h
        subst h5
        obtain ⟨h6, h7⟩ := ih _ (by omega) l' h4
        refine ⟨by simp only [List.length_cons]; omega, fun x hx => ?_⟩
        rcases List.mem_cons.1 hx with rfl | hx
        · omega
        · have := h7 x hx; omega
      · rw [splitR_bad h0 hc] at h; cases h

end Go.Proofs.Ytjnaknfnoibncaa
