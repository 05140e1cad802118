/- What sip's numbers of bytes do: number, Value, Bytes. Conditions: as many bytes as a word has, at most. -/
import Derived.Test.YtjnaknfnoibncaaSipA
namespace Go.Proofs.Ytjnaknfnoibncaa
open Go Go.RowKit Go.Shelf
attribute [local go_sem] Oper.semAt_some wide_fn wide_depth

theorem take_snocB (l : List UInt8) (k : Nat) (h : k < l.length) : l.take (k + 1) = l.take k ++ [l[k]] := List.take_succ_eq_append_getElem h
/-- One byte more. -/
theorem lowB_step (l : List UInt8) (k : Nat) (h : k < l.length) (h8 : k < 8) :
    Go.bits .or .u64 ((lowB (l.take k) : Nat) : Int) (IntKind.u64.wrap ((l[k].toNat : Int) * 2 ^ (8 * k))) = ((lowB (l.take (k + 1)) : Nat) : Int) := by
  have hl : (l.take k).length = k := by simp; omega
  have h1 := lowB_lt (l.take k)
  rw [hl] at h1
  have h256 : (256 : Nat) ^ k = 2 ^ (8 * k) := by rw [Nat.pow_mul]
  have hb := l[k].toNat_lt
  have hle : l[k].toNat * 2 ^ (8 * k) < 18446744073709551616 := by
    have h2 : l[k].toNat + 1 ≤ 256 := hb
    have h3 := Nat.mul_le_mul_right (2 ^ (8 * k)) h2
    have h4 : 256 * 2 ^ (8 * k) ≤ 18446744073709551616 := by
      rw [show (256 : Nat) = 2 ^ 8 from rfl, ← Nat.pow_add, ← p64]
      exact Nat.pow_le_pow_right (by decide) (by omega)
    have h5 := Nat.two_pow_pos (8 * k)
    rw [Nat.add_mul] at h3
    omega
  have hl8 : lowB (l.take k) < 18446744073709551616 := lowB_lt8 (by rw [hl]; omega)
  rw [shl64, Nat.mod_eq_of_lt hle, u64_or_nat _ _ hl8 hle, take_snocB l k h, lowB_snoc, hl, Nat.or_comm]
  rw [nat_join (8 * k) _ _ (Nat.mul_mod_left _ _) (by rw [← h256]; exact h1), h256, Nat.mul_comm, Nat.add_comm]

set_option maxRecDepth 100000 in
set_option maxHeartbeats 1000000 in
theorem number_any (s : ByteArray) (w : World) (hs : s.size ≤ 8) :
    Calls Try.prog 50 #[.string s] w fun e w' => e = .returned (.int .u64 (lowB s.data.toList : Nat)) ∧ w = w' := by
  go_enter Try.func50, Try.ntmps50
  go_wp2
  go_loop [3, 7] (fun n i => ∃ k : Nat, k ≤ s.size ∧ i = .int .i64 k ∧ n = .int .u64 (lowB (s.data.toList.take k) : Nat)) (fun _ i => s.size - (intOf i).toNat)
  case atStart => exact ⟨0, Nat.zero_le _, rfl, rfl⟩
  case round =>
    obtain ⟨k, hk, rfl, rfl⟩ := hrel
    by_cases hlt : k < s.size
    · have HS := Lib.hid (lowB_step s.data.toList k (by rw [len_list]; exact hlt) (by omega))
      have h8 : (8 * (k : Int)).toNat = 8 * k := by omega
      have h64 : min (8 * k) 64 = 8 * k := by omega
      have hb := s[k].toNat_lt
      have hw : IntKind.u64.wrap (s[k].toNat : Int) = (s[k].toNat : Int) := by rw [IntKind.wrap_u64]; omega
      clear hb
      go_wp2
      go_round
      case rel => exact ⟨k + 1, by omega, by go_num, by rw [← HS.out]; rfl⟩
      case measure => simp [intOf]; omega
    · obtain rfl : k = s.size := by omega
      have HL : Hid (s.data.toList.take s.size = s.data.toList) := Lib.hid (List.take_of_length_le (by rw [len_list]; exact Nat.le_refl _))
      go_wp2
      go_ret
      exact ⟨by rw [HL.out]; rfl, rfl⟩

set_option maxRecDepth 100000 in
set_option maxHeartbeats 1000000 in
theorem Value_any (s : ByteArray) (w : World) :
    Calls Try.prog 21 #[.string s] w fun e w' => e = .returned (.tuple (if s.size = 8 then #[.int .u64 (lowB s.data.toList : Nat), .int .i64 0] else #[.int .u64 0, .int .i64 2])) ∧ w = w' := by
  by_cases h8 : s.size = 8
  · have CN := Lib.hid fun W => number_any s W (by omega)
    rw [if_pos h8]
    have h8' : ((s.size : Int) != 8) = false := by rw [h8]; rfl
    have H8 := Lib.hid h8
    clear h8
    go_enter Try.func21, Try.ntmps21
    go_wp2_with ((with_reducible refine (CN.out _).mono ?_); rintro e w' ⟨rfl, rfl⟩)
    go_ret2
    exact ⟨rfl, rfl⟩
  · rw [if_neg h8]
    have h8' : ((s.size : Int) != 8) = true := by
      simp only [bne_iff_ne, ne_eq]; omega
    go_enter Try.func21, Try.ntmps21
    go_wp2_with fail
    go_ret2
    exact ⟨rfl, rfl⟩

def encB (l : List UInt8) : List Value := l.map fun b => Value.int .u8 (b.toNat : Int)
/-- Block B is a row of values. -/
def RowAt (W : World) (B : Nat) (t : TypeId) (l : List Value) : Prop := W.heap[B]? = some (.cells l.toArray t (0, 0))
theorem RowAt.lt {W : World} {B : Nat} {t : TypeId} {l : List Value} (h : RowAt W B t l) : B < W.heap.size := (Array.getElem?_eq_some_iff.1 h).1
theorem RowAt.cell {W : World} {B : Nat} {t : TypeId} {l : List Value} (h : RowAt W B t l) {i : Nat} {x : Value} (hi : l[i]? = some x) : W.cell? ⟨B, i, none⟩ = some x := by
  simp [World.cell?, show W.heap[B]? = _ from h, hi]
theorem RowAt.frozen {W : World} {B : Nat} {t : TypeId} {l : List Value} (h : RowAt W B t l) (i : Nat) : W.frozen? ⟨B, i, none⟩ = false := by simp [World.frozen?, show W.heap[B]? = _ from h]
theorem RowAt.set {W : World} {B : Nat} {t : TypeId} {l : List Value} (h : RowAt W B t l) (i : Nat) (x : Value) : RowAt (W.setCell ⟨B, i, none⟩ x) B t (l.set i x) := by
  obtain ⟨hlt, hk⟩ := Array.getElem?_eq_some_iff.1 h
  show (W.heap.modify B _)[B]? = _
  rw [Array.getElem?_eq_getElem (by rw [Array.size_modify]; exact hlt), Array.getElem_modify_self, hk]
  simp
theorem RowAt.keeps {W W' : World} {B : Nat} {t : TypeId} {l : List Value} (h : RowAt W B t l) {K : Nat → Prop} (k : Keeps K W W') (hK : K B) : RowAt W' B t l := k.heap h hK
theorem RowAt.new (W : World) (t : TypeId) (l : List Value) : RowAt (W.alloc (.cells l.toArray t)) W.heap.size t l := World.alloc_heap_new W _

/-- The first k bytes of a number; zeros behind them. -/
def by8 (n k : Nat) : List UInt8 := bytesM n k ++ List.replicate (8 - k) 0
theorem by8_step (n k : Nat) (hk : k < 8) : (by8 n k).set k (UInt8.ofNat (n / 256 ^ k % 256)) = by8 n (k + 1) := by
  unfold by8
  rw [List.set_append_right (h := by rw [bytesM_length]; exact Nat.le_refl _), bytesM_length, Nat.sub_self, show 8 - k = (8 - (k + 1)) + 1 by omega, List.replicate_succ, List.set_cons_zero, bytesM, List.append_assoc]
  rfl
theorem by8_0 (n : Nat) : by8 n 0 = [0, 0, 0, 0, 0, 0, 0, 0] := rfl
theorem by8_8 (n : Nat) : by8 n 8 = bytesM n 8 := by simp [by8]
theorem by8_get (n k : Nat) (hk : k < 8) : ∃ b, (by8 n k)[k]? = some b := by
  have hl : (by8 n k).length = 8 := by simp [by8, bytesM_length]; omega
  exact ⟨(by8 n k)[k], List.getElem?_eq_getElem (by omega)⟩
def bytesS (n : Nat) : ByteArray := ⟨(bytesM n 8).toArray⟩

theorem byte_at (n k : Nat) : (n : Int) / 2 ^ (8 * k) % 256 = ((UInt8.ofNat (n / 256 ^ k % 256)).toNat : Int) := by
  have h1 : (UInt8.ofNat (n / 256 ^ k % 256)).toNat = n / 256 ^ k % 256 := by rw [UInt8.toNat_ofNat']; omega
  rw [h1, show (256 : Nat) ^ k = 2 ^ (8 * k) by rw [Nat.pow_mul]]
  simp
theorem Ext.setCellX {a b : World} (h : Ext a b) {p : Addr} (hp : a.heap.size ≤ p.block) (v : Value) : Ext a (b.setCell p v) := Below.setCell h hp v
set_option maxRecDepth 100000 in
set_option maxHeartbeats 1000000 in
theorem Bytes_any (n : Nat) (w : World) :
    Calls Try.prog 35 #[.int .u64 (n : Nat)] w fun e w' => e = .returned (.string (bytesS n)) ∧ Ext w w' := by
  go_enter Try.func35, Try.ntmps35
  go_wp2
  have h0 : RowAt (w.alloc (.cells (encB [0, 0, 0, 0, 0, 0, 0, 0]).toArray 92)) w.heap.size 92 (encB [0, 0, 0, 0, 0, 0, 0, 0]) := RowAt.new w _ _
  have hx := (Ext.refl w).alloc (.cells (encB [0, 0, 0, 0, 0, 0, 0, 0]).toArray 92)
  rw [← by8_0 n] at h0
  obtain ⟨W, hW⟩ : ∃ W, w.alloc (.cells (encB (by8 n 0)).toArray 92) = W := ⟨_, rfl⟩
  go_loopw [5] (fun i wr => ∃ k : Nat, k ≤ 8 ∧ i = .int .i64 k ∧ RowAt wr w.heap.size 92 (encB (by8 n k)) ∧ Ext w wr) (fun i _ => 8 - (intOf i).toNat)
  case atStart => exact ⟨0, Nat.zero_le _, rfl, h0, hx⟩
  case round =>
    obtain ⟨k, hk, rfl, h, hx⟩ := hrel
    have H := Lib.hid h
    have HX := Lib.hid hx
    clear h0 hx hW
    by_cases hlt : k < 8
    · obtain ⟨b, hb⟩ := by8_get n k hlt
      have hc := H.out.cell (i := k) (x := .int .u8 (b.toNat : Int)) (by simp [encB, hb])
      have hf := H.out.frozen k
      have hk8 : (k : Int) < 8 := by omega
      have h8 : (8 * (k : Int)).toNat = 8 * k := by omega
      have h64 : min (8 * k) 64 = 8 * k := by omega
      have HB := Lib.hid (byte_at n k)
      clear hb h
      go_wp2
      go_roundw
      case rel =>
        refine ⟨k + 1, by omega, by go_num, ?_, HX.out.setCellX (p := ⟨w.heap.size, k, none⟩) (Nat.le_refl _) _⟩
        have h1 := H.out.set k (.int .u8 ((UInt8.ofNat (n / 256 ^ k % 256)).toNat : Int))
        rw [HB.out]
        rw [← by8_step n k hlt, encB, List.map_set]
        exact h1
      case measure => simp [intOf]; omega
    · obtain rfl : k = 8 := by omega
      rw [by8_8] at h
      have HC : Hid ((convert 93 9 (.slice (some ⟨w.heap.size, 0, none⟩) 8 8)).run Try.prog wr = .ok (.string (bytesS n)) wr) := Lib.hid (by
        refine run_convert_bytes_back wr 93 9 5 ⟨w.heap.size, 0, none⟩ 8 (bytesM n 8) Try.underlying93 Try.underlying5 Try.underlying9 (fun j hj => ?_)
        have hj' : j < (bytesM n 8).length := hj
        have := h.cell (i := j) (x := .int .u8 ((bytesM n 8)[j].toNat : Int)) (by simp [encB, List.getElem?_eq_getElem hj'])
        have hp : (⟨w.heap.size, 0, none⟩ : Addr).add j = ⟨w.heap.size, j, none⟩ := by unfold Addr.add; split <;> simp_all
        rw [hp]
        exact this)
      have hc := HC.out
      go_wp2
      go_ret
      exact ⟨rfl, HX.out⟩
end Go.Proofs.Ytjnaknfnoibncaa
