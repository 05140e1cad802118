/- What walk's place and Less do, and the library's comparison of two lists of strings. Conditions: names' texts; slices that hold the strings. -/
import Derived.Test.YtmmjhdkoccpdjaaWalkE
import Derived.Laws.Cover1
namespace Go.Proofs.Ytmmjhdkoccpdjaa
open Go Go.RowKit Go.Shelf

def cmpS (x y : ByteArray) : Int := if Op.bytesLess x.toList y.toList = true then -1 else if (Op.bytesLess x.toList y.toList || x.toList == y.toList) = true then 0 else 1
def cmpL : List ByteArray → List ByteArray → Int
  | [], [] => 0
  | [], _ :: _ => -1
  | _ :: _, [] => 1
  | x :: xs, y :: ys => if cmpS x y = 0 then cmpL xs ys else cmpS x y

set_option maxRecDepth 100000 in
set_option maxHeartbeats 1000000 in
theorem cmpS_any (x y : ByteArray) (w : World) :
    Calls Try.prog 115 #[.string x, .string y] w fun e w' => e = .returned (.int .i64 (cmpS x y)) ∧ Ext w w' := by
  have hx : (x.toList == x.toList) = true := by simp
  have hy : (y.toList == y.toList) = true := by simp
  cases hl : Op.bytesLess x.toList y.toList with
  | true =>
    have hc : cmpS x y = -1 := by rw [cmpS, if_pos hl]
    rw [hc]
    go_enter Try.func115, Try.ntmps115
    go_wp2
    go_ret
    exact ⟨rfl, Ext.refl _⟩
  | false =>
    cases he : (x.toList == y.toList) with
    | true =>
      have hc : cmpS x y = 0 := by rw [cmpS, hl, he]; rfl
      rw [hc]
      go_enter Try.func115, Try.ntmps115
      go_wp2
      go_ret
      exact ⟨rfl, Ext.refl _⟩
    | false =>
      have hc : cmpS x y = 1 := by rw [cmpS, hl, he]; rfl
      rw [hc]
      go_enter Try.func115, Try.ntmps115
      go_wp2
      go_ret
      exact ⟨rfl, Ext.refl _⟩

set_option maxRecDepth 100000 in
set_option maxHeartbeats 4000000 in
theorem Compare_any (u v : Value) (xs ys : List ByteArray) (w : World) (hu : Strs w u xs) (hv : Strs w v ys) (ha : xs.length ≤ 140737488355328) :
    Calls Try.prog 78 #[u, v] w fun e w' => e = .returned (.int .i64 (cmpL xs ys)) ∧ Ext w w' := by
  obtain ⟨ao, cap, rfl, hu2⟩ := hu.open
  obtain ⟨bo, cap2, rfl, hv2⟩ := hv.open
  have Hu := Lib.hid hu2; clear hu2 hu
  have Hv := Lib.hid hv2; clear hv2 hv
  have HC := Lib.hid cmpS_any
  go_enter Try.func78, Try.ntmps78
  go_wp2_with fail
  go_loopw [11] (fun i wr => ∃ k : Nat, k ≤ xs.length ∧ k ≤ ys.length ∧ i = .int .i64 k ∧ cmpL xs ys = cmpL (xs.drop k) (ys.drop k) ∧ Ext w wr)
    (fun i _ => xs.length - (intOf i).toNat)
  case atStart => exact ⟨0, Nat.zero_le _, Nat.zero_le _, rfl, rfl, Ext.refl _⟩
  case round =>
    obtain ⟨k, hk, hk2, rfl, heq, hx⟩ := hrel
    have HX := Lib.hid hx; clear hx
    by_cases hlt : k < xs.length
    · by_cases hlt2 : k < ys.length
      · obtain ⟨b, off, rfl, hc⟩ := Hu.out k hlt
        obtain ⟨b2, off2, rfl, hc2⟩ := Hv.out k hlt2
        replace hc := HX.out.keeps.cell hc trivial
        replace hc2 := HX.out.keeps.cell hc2 trivial
        rw [List.getElem?_eq_getElem hlt, Option.getD_some] at hc
        rw [List.getElem?_eq_getElem hlt2, Option.getD_some] at hc2
        rw [List.drop_eq_getElem_cons hlt, List.drop_eq_getElem_cons hlt2, cmpL] at heq
        obtain ⟨x, hx⟩ : ∃ x, xs[k] = x := ⟨_, rfl⟩
        obtain ⟨y, hy⟩ : ∃ y, ys[k] = y := ⟨_, rfl⟩
        rw [hx] at hc heq
        rw [hy] at hc2 heq
        have HR := Lib.hid fun W => HC.out x y W
        have Heq := Lib.hid heq
        obtain ⟨c, hcc⟩ : ∃ c, cmpS x y = c := ⟨_, rfl⟩
        rw [hcc] at HR Heq
        clear heq hx hy hcc
        by_cases hc0 : c = 0
        · subst hc0
          have Heq' : Hid (cmpL xs ys = cmpL (xs.drop (k + 1)) (ys.drop (k + 1))) := Lib.hid (by rw [Heq.out, if_pos rfl])
          go_wp2_with (first
            | ((with_reducible refine (HR.out _).mono ?_); rintro e w' ⟨rfl, hx⟩; have HX := Lib.hid (HX.out.trans hx); clear hx))
          go_roundw
          case rel => exact ⟨k + 1, by omega, by omega, by simp, Heq'.out, HX.out⟩
          case measure => simp [intOf]; omega
        · have hcb : (c == 0) = false := beq_eq_false_iff_ne.2 hc0
          have Heq' : Hid (cmpL xs ys = c) := Lib.hid (by rw [Heq.out, if_neg hc0])
          go_wp2_with (first
            | ((with_reducible refine (HR.out _).mono ?_); rintro e w' ⟨rfl, hx⟩; have HX := Lib.hid (HX.out.trans hx); clear hx))
          go_ret
          exact ⟨by rw [Heq'.out]; rfl, HX.out⟩
      · obtain rfl : k = ys.length := by omega
        obtain ⟨b, off, rfl, hc⟩ := Hu.out _ hlt
        replace hc := HX.out.keeps.cell hc trivial
        have Heq' : Hid (cmpL xs ys = 1) := Lib.hid (by rw [heq, List.drop_eq_getElem_cons hlt, List.drop_length]; rfl)
        clear heq
        go_wp2
        go_ret
        exact ⟨by rw [Heq'.out]; rfl, HX.out⟩
    · obtain rfl : k = xs.length := by omega
      by_cases hlt2 : xs.length < ys.length
      · have Heq' : Hid (cmpL xs ys = -1) := Lib.hid (by rw [heq, List.drop_eq_getElem_cons hlt2, List.drop_length]; rfl)
        clear heq
        go_wp2
        go_ret
        exact ⟨by rw [Heq'.out]; rfl, HX.out⟩
      · have hle : xs.length = ys.length := by omega
        have Heq' : Hid (cmpL xs ys = 0) := Lib.hid (by rw [heq, List.drop_length, hle, List.drop_length]; rfl)
        clear heq
        go_wp2
        go_ret
        exact ⟨by rw [Heq'.out]; rfl, HX.out⟩

def placeB (n : ByteArray) : List ByteArray := (labelsB (foldS n)).reverse

set_option maxRecDepth 100000 in
set_option maxHeartbeats 4000000 in
theorem place_any (n : ByteArray) (w : World) (hs : n.size ≤ 255) :
    Calls Try.prog 79 #[.string n] w fun e w' => ∃ v, e = .returned v ∧ w'.ownsRow w.heap.size 9 1 v (placeB n).length ((placeB n).map Value.string) ∧ Ext w w' := by
  have hfs : (foldS n).size = n.size := size_foldS n
  have hlen := labelsB_length (foldS n)
  have CF := Lib.hid fun W => Fold_any n W (by unfold maxLen; omega)
  go_enter Try.func79, Try.ntmps79
  go_wp2_with fail
  refine (CF.out _).mono ?_
  rintro e w1 ⟨rfl, hx1⟩
  have HX1 : Hid (Ext w w1) := Lib.hid hx1; clear hx1 CF
  go_wp2_with fail
  refine (Labels_any _ _).mono ?_
  rintro e w2 ⟨rfl, rfl⟩
  have hb : (w1.alloc (.cells #[.string (foldS n)] 9)).cell? ⟨w1.heap.size, 0, none⟩ = some (.string (foldS n)) := (Boxed.new w1 9 _).cell
  have HCo := Lib.hid (Collect_any 114 #[.pointer (some ⟨w1.heap.size, 0, none⟩)] (fun k => k = w1.heap.size) (labelsB (foldS n)) (w1.alloc (.cells #[.string (foldS n)] 9)) (w1.alloc (.cells #[.string (foldS n)] 9))
    (enters_of Try.func114 (by kernel_rfl) rfl) (fun m => labels1_seq m w1.heap.size (foldS n) (by unfold maxLen; omega) _ hb) (Keeps.refl _ _) (fun k h => by subst h; simp) (by omega))
  have HX2 : Hid (Ext w (w1.alloc (.cells #[.string (foldS n)] 9))) := Lib.hid (HX1.out.alloc _)
  clear hb HX1
  generalize w1.alloc (.cells #[.string (foldS n)] 9) = w2 at HCo HX2 ⊢
  go_wp2_with fail
  refine HCo.out.mono ?_
  rintro e w3 ⟨v, rfl, hown, hx3⟩
  have HX3 : Hid (Ext w w3) := Lib.hid (HX2.out.trans hx3)
  have hbase := HX2.out.size
  have HR := Lib.hid (Reverse_any w2.heap.size v (labelsB (foldS n)) w3 hown (by omega))
  clear HCo hown hx3
  go_wp2_with fail
  refine HR.out.mono ?_
  rintro e w4 ⟨⟨u, rfl⟩, hown4, hk4⟩
  have Hown4 := Lib.hid hown4
  have HX4 : Hid (Ext w w4) := Lib.hid (((HX3.out.keeps.mono (K' := fun k => k < w.heap.size) fun _ _ _ => trivial).trans (hk4.mono fun k _ h => by omega)).ext fun _ h => h)
  clear hown4 hk4 HR HX3
  go_wp2
  go_ret
  refine ⟨_, rfl, ownsRow_mono ?_ hbase, HX4.out⟩
  rw [placeB, List.length_reverse]
  exact Hown4.out

end Go.Proofs.Ytmmjhdkoccpdjaa
