/- The texts of cookies: what ask's Text, give's Text and head, and the document's answers for them tell. Conditions: numbers of 32 bits; texts that are no longer than may be. -/
import Derived.Test.YtjnaknfnoibncaaPackX
namespace Go.Proofs.Ytjnaknfnoibncaa
open Go Go.RowKit Go.Shelf
attribute [local go_sem] Oper.semAt_some wide_fn wide_depth

/-- A number's four bytes, the highest first. -/
def be4 (n : Nat) : List UInt8 := [byB n 3, byB n 2, byB n 1, byB n 0]
theorem nbs4 (n : Nat) : nbs n 4 = be4 n := rfl
def askT (n : Nat) : ByteArray := ⟨([97, 115, 107] ++ be4 n).toArray⟩
def headT (n : Nat) : ByteArray := ⟨([1, 0, 0, 0] ++ be4 n).toArray⟩
def giveT (c h : ByteArray) (a : Nat) : ByteArray := ⟨([103, 105, 118, 101] ++ bl c ++ bl h ++ be4 a).toArray⟩
theorem app_bl (a b : ByteArray) : bl (a ++ b) = bl a ++ bl b := by simp [bl]
theorem raw1 (bs : List UInt8) (s : ByteArray) (L : Int) (h : ((bs.length + s.size : Nat) : Int) ≤ L) : rawW ⟨bs, L, false, []⟩ s = ⟨bs ++ bl s, L, false, []⟩ := rawW_fit rfl h
theorem okW (bs : List UInt8) (L : Int) (h : bs.length ≤ 140737488355328) (h0 : 0 ≤ L) (h1 : L ≤ 140737488355328) : (⟨bs, L, false, []⟩ : Wr).ok := ⟨h, h1, by show -9223372036854775808 ≤ L; omega, Nat.zero_le _, by simp⟩
theorem out1 (bs : List UInt8) (L : Int) : outR ⟨bs, L, false, []⟩ = (⟨bs.toArray⟩, 0) := rfl
theorem len4 (n : Nat) : (be4 n).length = 4 := rfl

set_option maxHeartbeats 1000000 in
theorem AText_any (n : Nat) (w : World) (hn : n < 4294967296) :
    Calls Try.prog 16 #[.int .u32 (n : Int)] w fun e w' => e = .returned (.string (askT n)) ∧ Ext w w' := by
  have C0 := Lib.hid fun W => New_any 7 W
  have hn2 : (n : Int) < 4294967296 := by omega
  have hw1 : (n : Int) % 18446744073709551616 = n := by omega
  go_enter Try.func16, Try.ntmps16
  go_wp2_with fail
  refine (C0.out _).mono ?_
  rintro e w1 ⟨rfl, hw, hx⟩
  obtain ⟨B, hB⟩ : ∃ B, w.heap.size + 1 = B := ⟨_, rfl⟩
  rw [hB] at hw ⊢
  clear hB
  have Hw := Lib.hid hw; clear hw
  have HK := Lib.hid (hx.keeps.mono (K' := fun k => k < w.heap.size) fun _ _ _ => trivial); clear hx
  have C := Lib.hid (WRaw_any B _ _ ⟨#[97, 115, 107]⟩ w1 Hw.out (okW _ _ (by decide) (by decide) (by decide)) (by decide))
  rw [raw1 _ _ _ (by decide)] at C
  go_wp2_with fail
  refine C.out.mono ?_
  rintro e w2 ⟨⟨v, rfl⟩, hw, hk⟩
  have Hw := Lib.hid hw; clear hw
  have HK := Lib.hid (HK.out.trans hk); clear hk
  have C := Lib.hid (WNum_any B _ _ 4 n w2 Hw.out (okW _ _ (by decide) (by decide) (by decide)) (.inr (.inr (.inl rfl))) (by omega))
  rw [nbs4, raw1 _ _ _ (by simp [bl, be4, ByteArray.size])] at C
  rw [show (((4 : Nat) : Int)) = 4 from rfl] at C
  go_wp2_with fail
  refine C.out.mono ?_
  rintro e w3 ⟨⟨v, rfl⟩, hw, hk⟩
  have Hw := Lib.hid hw; clear hw
  have HK := Lib.hid (HK.out.trans hk); clear hk
  have C := Lib.hid (Out_any B _ _ w3 Hw.out)
  rw [out1] at C
  go_wp2_with fail
  refine C.out.mono ?_
  rintro e w3' ⟨rfl, rfl⟩
  go_wp2
  go_ret
  exact ⟨rfl, HK.out.ext fun j h => h⟩

set_option maxHeartbeats 1000000 in
theorem AHead_any (n : Nat) (w : World) (hn : n < 4294967296) :
    Calls Try.prog 53 #[.int .u32 (n : Int)] w fun e w' => e = .returned (.string (headT n)) ∧ Ext w w' := by
  have C0 := Lib.hid fun W => New_any 8 W
  have hn2 : (n : Int) < 4294967296 := by omega
  have hw1 : (n : Int) % 18446744073709551616 = n := by omega
  go_enter Try.func53, Try.ntmps53
  go_wp2_with fail
  refine (C0.out _).mono ?_
  rintro e w1 ⟨rfl, hw, hx⟩
  obtain ⟨B, hB⟩ : ∃ B, w.heap.size + 1 = B := ⟨_, rfl⟩
  rw [hB] at hw ⊢
  clear hB
  have Hw := Lib.hid hw; clear hw
  have HK := Lib.hid (hx.keeps.mono (K' := fun k => k < w.heap.size) fun _ _ _ => trivial); clear hx
  have C := Lib.hid (WRaw_any B _ _ ⟨#[1, 0, 0, 0]⟩ w1 Hw.out (okW _ _ (by decide) (by decide) (by decide)) (by decide))
  rw [raw1 _ _ _ (by decide)] at C
  go_wp2_with fail
  refine C.out.mono ?_
  rintro e w2 ⟨⟨v, rfl⟩, hw, hk⟩
  have Hw := Lib.hid hw; clear hw
  have HK := Lib.hid (HK.out.trans hk); clear hk
  have C := Lib.hid (WNum_any B _ _ 4 n w2 Hw.out (okW _ _ (by decide) (by decide) (by decide)) (.inr (.inr (.inl rfl))) (by omega))
  rw [nbs4, raw1 _ _ _ (by simp [bl, be4, ByteArray.size])] at C
  rw [show (((4 : Nat) : Int)) = 4 from rfl] at C
  go_wp2_with fail
  refine C.out.mono ?_
  rintro e w3 ⟨⟨v, rfl⟩, hw, hk⟩
  have Hw := Lib.hid hw; clear hw
  have HK := Lib.hid (HK.out.trans hk); clear hk
  have C := Lib.hid (Out_any B _ _ w3 Hw.out)
  rw [out1] at C
  go_wp2_with fail
  refine C.out.mono ?_
  rintro e w3' ⟨rfl, rfl⟩
  go_wp2
  go_ret
  exact ⟨rfl, HK.out.ext fun j h => h⟩

set_option maxHeartbeats 1000000 in
theorem GText_any (c h : ByteArray) (n : Nat) (w : World) (hch : c.size + h.size + 8 ≤ 140737488355328) (hn : n < 4294967296) :
    Calls Try.prog 30 #[.string c, .string h, .int .u32 (n : Int)] w fun e w' => e = .returned (.string (giveT c h n)) ∧ Ext w w' := by
  have hch2 : (c.size : Int) + h.size + 8 ≤ 140737488355328 := by omega
  have hw0 : IntKind.i64.wrap (4 + (c.size : Int)) = 4 + (c.size : Int) := by rw [IntKind.wrap_i64]; omega
  have hw2 : IntKind.i64.wrap (4 + (c.size : Int) + (h.size : Int)) = 4 + (c.size : Int) + (h.size : Int) := by rw [IntKind.wrap_i64]; omega
  have hw3 : IntKind.i64.wrap (4 + (c.size : Int) + (h.size : Int) + 4) = 4 + (c.size : Int) + (h.size : Int) + 4 := by rw [IntKind.wrap_i64]; omega
  have C0 := Lib.hid fun W => New_any (4 + (c.size : Int) + (h.size : Int) + 4) W
  have L1 : ∀ x : ByteArray, (([] : List UInt8) ++ bl ⟨#[103, 105, 118, 101]⟩ ++ bl x).length = 4 + x.size := fun x => by rw [List.length_append, bl_size]; rfl
  have L2 : ∀ x y : ByteArray, (([] : List UInt8) ++ bl ⟨#[103, 105, 118, 101]⟩ ++ bl x ++ bl y).length = 4 + x.size + y.size := fun x y => by rw [List.length_append, bl_size, L1]
  have hn2 : (n : Int) < 4294967296 := by omega
  have hw1 : (n : Int) % 18446744073709551616 = n := by omega
  go_enter Try.func30, Try.ntmps30
  go_wp2_with fail
  refine (C0.out _).mono ?_
  rintro e w1 ⟨rfl, hw, hx⟩
  obtain ⟨B, hB⟩ : ∃ B, w.heap.size + 1 = B := ⟨_, rfl⟩
  rw [hB] at hw ⊢
  clear hB
  have Hw := Lib.hid hw; clear hw
  have HK := Lib.hid (hx.keeps.mono (K' := fun k => k < w.heap.size) fun _ _ _ => trivial); clear hx
  have C := Lib.hid (WRaw_any B _ _ ⟨#[103, 105, 118, 101]⟩ w1 Hw.out (okW _ _ (by decide) (by omega) (by omega)) (by decide))
  rw [raw1 _ _ _ (by rw [show (⟨#[103, 105, 118, 101]⟩ : ByteArray).size = 4 from rfl]; simp; omega)] at C
  go_wp2_with fail
  refine C.out.mono ?_
  rintro e w2 ⟨⟨v, rfl⟩, hw, hk⟩
  have Hw := Lib.hid hw; clear hw
  have HK := Lib.hid (HK.out.trans hk); clear hk
  have C := Lib.hid (WRaw_any B _ _ c w2 Hw.out (okW _ _ (by decide) (by omega) (by omega)) (by omega))
  rw [raw1 _ _ _ (by simp [bl]; omega)] at C
  go_wp2_with fail
  refine C.out.mono ?_
  rintro e w2 ⟨⟨v, rfl⟩, hw, hk⟩
  have Hw := Lib.hid hw; clear hw
  have HK := Lib.hid (HK.out.trans hk); clear hk
  have C := Lib.hid (WRaw_any B _ _ h w2 Hw.out (okW _ _ (by rw [L1]; omega) (by omega) (by omega)) (by omega))
  rw [raw1 _ _ _ (by rw [L1]; omega)] at C
  go_wp2_with fail
  refine C.out.mono ?_
  rintro e w2 ⟨⟨v, rfl⟩, hw, hk⟩
  have Hw := Lib.hid hw; clear hw
  have HK := Lib.hid (HK.out.trans hk); clear hk
  have C := Lib.hid (WNum_any B _ _ 4 n w2 Hw.out (okW _ _ (by rw [L2]; omega) (by omega) (by omega)) (.inr (.inr (.inl rfl))) (by omega))
  rw [nbs4, raw1 _ _ _ (by rw [show (⟨(be4 n).toArray⟩ : ByteArray).size = 4 from rfl, L2]; omega)] at C
  rw [show (((4 : Nat) : Int)) = 4 from rfl] at C
  go_wp2_with fail
  refine C.out.mono ?_
  rintro e w3 ⟨⟨v, rfl⟩, hw, hk⟩
  have Hw := Lib.hid hw; clear hw
  have HK := Lib.hid (HK.out.trans hk); clear hk
  have C := Lib.hid (Out_any B _ _ w3 Hw.out)
  rw [out1] at C
  go_wp2_with fail
  refine C.out.mono ?_
  rintro e w3' ⟨rfl, rfl⟩
  go_wp2
  go_ret
  refine ⟨?_, HK.out.ext fun j h => h⟩
  show Ending.returned (Value.string ⟨(bl ⟨#[103, 105, 118, 101]⟩ ++ (bl c ++ (bl h ++ bl ⟨(be4 n).toArray⟩))).toArray⟩) = _
  unfold giveT
  rw [← List.append_assoc, ← List.append_assoc]
  rfl

theorem byB_int (n k : Nat) : ((byB n k).toNat : Int) = (n : Int) / 256 ^ k % 256 := by
  unfold byB
  rw [UInt8.toNat_ofNat', Nat.mod_eq_of_lt (show n / 256 ^ k % 256 < 2 ^ 8 by omega), Int.natCast_emod, Int.natCast_ediv, Int.natCast_pow]
  rfl
set_option maxRecDepth 100000 in
set_option maxHeartbeats 1000000 in
theorem Four_any (n : Nat) (w : World) (hn : n < 4294967296) :
    Calls Try.prog 43 #[.int .u32 (n : Int)] w fun e w' => e = .returned (.string ⟨(be4 n).toArray⟩) ∧ Ext w w' := by
  have hback : ∀ W : World, (convert 93 9 (.slice (some ⟨W.heap.size, 0, none⟩) 4 4)).run Try.prog (W.alloc (.cells #[.int .u8 ((n : Int) / 16777216), .int .u8 ((n : Int) / 65536 % 256), .int .u8 ((n : Int) / 256 % 256), .int .u8 ((n : Int) % 256)] 5)) =
      .ok (.string ⟨(be4 n).toArray⟩) (W.alloc (.cells #[.int .u8 ((n : Int) / 16777216), .int .u8 ((n : Int) / 65536 % 256), .int .u8 ((n : Int) / 256 % 256), .int .u8 ((n : Int) % 256)] 5)) := fun W => by
    refine run_convert_bytes_back _ 93 9 5 ⟨W.heap.size, 0, none⟩ 4 (be4 n) Try.underlying93 Try.underlying5 Try.underlying9 (fun j hj => ?_)
    have hj4 : j < 4 := hj
    have hp : (⟨W.heap.size, 0, none⟩ : Addr).add j = ⟨W.heap.size, j, none⟩ := by unfold Addr.add; split <;> simp_all
    rw [hp, cell_of_row _ _ _ _ _ _ (World.alloc_heap_new W _)]
    match j, hj4 with
    | 0, _ => simp only [be4, List.getElem_cons_zero]; rw [byB_int]; simp; omega
    | 1, _ => simp only [be4, List.getElem_cons_succ, List.getElem_cons_zero]; rw [byB_int]; simp
    | 2, _ => simp only [be4, List.getElem_cons_succ, List.getElem_cons_zero]; rw [byB_int]; simp
    | 3, _ => simp only [be4, List.getElem_cons_succ, List.getElem_cons_zero]; rw [byB_int]; simp
  go_enter Try.func43, Try.ntmps43
  go_wp2
  go_ret
  exact ⟨rfl, (Ext.refl _).alloc _⟩

theorem askT_app (n : Nat) : (⟨#[97, 115, 107]⟩ : ByteArray) ++ ⟨(be4 n).toArray⟩ = askT n := bl_inj (by rw [app_bl]; rfl)
theorem headT_app (n : Nat) : (⟨#[1, 0, 0, 0]⟩ : ByteArray) ++ ⟨(be4 n).toArray⟩ = headT n := bl_inj (by rw [app_bl]; rfl)
theorem giveT_app (c h : ByteArray) (n : Nat) : (⟨#[103, 105, 118, 101]⟩ : ByteArray) ++ c ++ h ++ ⟨(be4 n).toArray⟩ = giveT c h n := bl_inj (by rw [app_bl, app_bl, app_bl]; unfold giveT; rw [bl_mk, bl_mk]; rfl)
theorem size4 (n : Nat) : (⟨(be4 n).toArray⟩ : ByteArray).size = 4 := rfl

set_option maxRecDepth 100000 in
set_option maxHeartbeats 1000000 in
theorem RAText_any (n : Nat) (w : World) (hn : n < 4294967296) :
    Calls Try.prog 17 #[.int .u32 (n : Int)] w fun e w' => e = .returned (.string (askT n)) ∧ Ext w w' := by
  have C := Lib.hid fun W => Four_any n W hn
  have hs := size4 n
  rw [← askT_app]
  obtain ⟨x, hx⟩ : ∃ x, (⟨(be4 n).toArray⟩ : ByteArray) = x := ⟨_, rfl⟩
  rw [hx] at C hs ⊢
  clear hx
  go_enter Try.func17, Try.ntmps17
  go_wp2_with ((with_reducible refine (C.out _).mono ?_); rintro e w' ⟨rfl, hx⟩; have HX := Lib.hid hx; clear hx)
  go_ret
  exact ⟨rfl, HX.out⟩

set_option maxRecDepth 100000 in
set_option maxHeartbeats 1000000 in
theorem RGText_any (c h : ByteArray) (n : Nat) (w : World) (hch : c.size + h.size + 8 ≤ 140737488355328) (hn : n < 4294967296) :
    Calls Try.prog 31 #[.string c, .string h, .int .u32 (n : Int)] w fun e w' => e = .returned (.string (giveT c h n)) ∧ Ext w w' := by
  have C := Lib.hid fun W => Four_any n W hn
  have hs := size4 n
  rw [← giveT_app]
  obtain ⟨x, hx⟩ : ∃ x, (⟨(be4 n).toArray⟩ : ByteArray) = x := ⟨_, rfl⟩
  rw [hx] at C hs ⊢
  clear hx
  go_enter Try.func31, Try.ntmps31
  go_wp2_with ((with_reducible refine (C.out _).mono ?_); rintro e w' ⟨rfl, hx⟩; have HX := Lib.hid hx; clear hx)
  all_goals go_ret
  exact ⟨rfl, HX.out⟩

/-- The stamp of a cookie. -/
def stampN (s : ByteArray) : Nat := beN (((bl s).drop 4).take 4)
theorem stampN_lt (s : ByteArray) : stampN s < 4294967296 := by
  have h := beN_lt (((bl s).drop 4).take 4)
  have h2 : 256 ^ (((bl s).drop 4).take 4).length ≤ 256 ^ 4 := Nat.pow_le_pow_right (by decide) (by rw [List.length_take]; omega)
  unfold stampN
  omega
set_option maxRecDepth 100000 in
set_option maxHeartbeats 1000000 in
theorem stampOf_any (s : ByteArray) (w : World) (hs : s.size = 16) :
    Calls Try.prog 58 #[.string s] w fun e w' => e = .returned (.int .u32 (stampN s : Nat)) ∧ Ext w w' := by
  have h4 : (s.size : Int) = 16 := by omega
  have hsz : (s.extract 4 16).size = 12 := by rw [ByteArray.size_extract]; omega
  have C1 := Lib.hid fun W => Open_any (s.extract 4 16) W
  have C2 := Lib.hid fun B W h => Num_any B ⟨s.extract 4 16, 0, false⟩ 4 W h ⟨Nat.zero_le _, by show (s.extract 4 16).size ≤ _; omega⟩ (.inr (.inr (.inl rfl)))
  have hst : (numR ⟨s.extract 4 16, 0, false⟩ ((4 : Nat) : Int)).1 = stampN s := by
    unfold stampN numR
    rw [if_pos (by decide)]
    unfold rawR
    rw [if_neg (by simp only [Rd.left, hsz]; omega)]
    simp only
    rw [bl_extract, bl_extract, show (bl s).take 16 = bl s from List.take_of_length_le (by rw [bl_size]; omega)]
    rfl
  have hy := stampN_lt s
  rw [hst, show (((4 : Nat) : Int)) = 4 from rfl] at C2
  obtain ⟨y, hy2⟩ : ∃ y, stampN s = y := ⟨_, rfl⟩
  rw [hy2] at hy C2 ⊢
  have hy3 : (y : Int) % 4294967296 = y := by omega
  clear hst hy hy2 hsz
  go_enter Try.func58, Try.ntmps58
  go_wp2_with (first
    | ((with_reducible refine (C1.out _).mono ?_); rintro e w1 ⟨rfl, hr, hx⟩; have Hr := Lib.hid hr; have HK := Lib.hid (hx.keeps.mono (K' := fun k => k < w.heap.size) fun _ _ _ => trivial); clear hr hx)
    | ((with_reducible refine (C2.out _ _ Hr.out).mono ?_); rintro e w2 ⟨rfl, _, hk⟩; have HK2 := Lib.hid (HK.out.trans (hk.mono fun j hj _ => by omega)); clear hk))
  go_ret
  exact ⟨rfl, HK2.out.ext fun j h => h⟩

set_option maxRecDepth 100000 in
set_option maxHeartbeats 1000000 in
theorem HasPrefix_any (s : ByteArray) (w : World) (hs : s.size = 16) :
    Calls Try.prog 57 #[.string s, .string ⟨#[1, 0, 0, 0]⟩] w fun e w' => e = .returned (.bool (decide ((bl s).take 4 = [1, 0, 0, 0]))) ∧ w = w' := by
  have h4 : (s.size : Int) = 16 := by omega
  have hb : decide ((bl s).take 4 = [1, 0, 0, 0]) = ((s.extract 0 4).toList == [1, 0, 0, 0]) := by
    rw [toList_bl, bl_extract, List.drop_zero, Bool.eq_iff_iff, decide_eq_true_eq, beq_iff_eq]
  rw [hb]
  clear hb
  go_enter Try.func57, Try.ntmps57
  go_wp2
  go_ret
  exact ⟨rfl, rfl⟩
end Go.Proofs.Ytjnaknfnoibncaa
