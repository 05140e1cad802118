/- Servers' cookies: give's cookie and Make, and the document's. Conditions: numbers of 32 bits; texts that are no longer than may be. -/
import Derived.Test.YtjnaknfnoibncaaAskB
import Derived.Test.YtjnaknfnoibncaaStampA
namespace Go.Proofs.Ytjnaknfnoibncaa
open Go Go.RowKit Go.Shelf
attribute [local go_sem] Oper.semAt_some wide_fn wide_depth


theorem size_headT (n : Nat) : (headT n).size = 8 := rfl

set_option maxRecDepth 100000 in
set_option maxHeartbeats 2000000 in
theorem cookie_any (l : List SumC) (v : Value) (o : Bool) (k c hd : ByteArray) (n : Nat) (w : World) (hr : SRow w v 3 (l.map SumC.cells)) (hc : c.size ≤ 2000000000) (hh : hd.size ≤ 2000000000) (hn : n < 4294967296) :
    Calls Try.prog 52 #[.agg #[.bool o, v], .string k, .string c, .string hd, .int .u32 (n : Int)] w fun e w' => e = .returned (.tuple #[.string (cookV o l k (giveT c hd n) hd).1, .int .i64 (cookV o l k (giveT c hd n) hd).2]) ∧ Ext w w' := by
  have Hr := Lib.hid hr
  obtain ⟨ao, m, ac, rfl⟩ := hr.slice
  clear hr
  have C1 := Lib.hid fun W => GText_any c hd n W (by omega) hn
  have C2 := Lib.hid fun W h => HOf_any l (.slice ao m ac) o k (giveT c hd n) W h
  have C3 := Lib.hid fun W => Bytes_any (hashV o l k (giveT c hd n)) W
  have HX0 := Lib.hid ((Ext.refl w).alloc (.cells #[.bool o, .slice ao m ac] 24))
  have hcell := cell_new w #[.bool o, .slice ao m ac] 24
  have TW := Lib.hid (show ∀ W, Ext (w.alloc (.cells #[.bool o, .slice ao m ac] 24)) W → W.cell? ⟨w.heap.size, 0, none⟩ = some (.bool o) ∧ W.cell? ⟨w.heap.size, 1, none⟩ = some (.slice ao m ac) from fun w2 h => ⟨h.keeps.cell (hcell 0) trivial, h.keeps.cell (hcell 1) trivial⟩)
  clear hcell
  unfold cookV
  obtain ⟨t, ht⟩ : ∃ y, giveT c hd n = y := ⟨_, rfl⟩
  rw [ht] at C1 C2 C3 ⊢
  obtain ⟨y, hy⟩ : ∃ y, hashV o l k t = y := ⟨_, rfl⟩
  obtain ⟨ee, he⟩ : ∃ y, sumE k t = y := ⟨_, rfl⟩
  rw [hy] at C2 C3 ⊢
  rw [he] at C2 ⊢
  clear hy he ht
  have hb8 := size_bytesS y
  obtain ⟨b, hb⟩ : ∃ b, bytesS y = b := ⟨_, rfl⟩
  rw [hb] at C3 hb8 ⊢
  have hhb : (hd.size : Int) ≤ 2000000000 := by omega
  clear hb
  have hx1 := Lib.hid (Ext.refl (w.alloc (.cells #[.bool o, .slice ao m ac] 24)))
  have hx1d := Lib.hid ((Ext.refl (w.alloc (.cells #[.bool o, .slice ao m ac] 24))).drew)
  by_cases h0 : ee = 0
  · subst h0
    rw [if_pos rfl]
    go_enter Try.func52, Try.ntmps52
    go_wp2_with fail
    go_region_held3 (fun w' => w'.cell? ⟨w.heap.size, 0, none⟩ = some (.bool o) ∧ w'.cell? ⟨w.heap.size, 1, none⟩ = some (.slice ao m ac))
      (first | exact TW.out _ hx1.out | exact TW.out _ hx1d.out | go_keep)
      (first
        | ((with_reducible refine (C1.out _).mono ?_); rintro e W5 ⟨rfl, hx⟩; replace hx1 := Lib.hid (hx1d.out.trans hx); clear hx)
        | ((with_reducible refine (C2.out _ (Hr.out.ext (HX0.out.trans hx1.out))).mono ?_); rintro e W6 ⟨rfl, hx⟩; replace hx1 := Lib.hid (hx1.out.trans hx); clear hx))
    go_wp2_with ((with_reducible refine (C3.out _).mono ?_); rintro e W7 ⟨rfl, hx⟩; replace hx1 := Lib.hid (hx1.out.trans hx); clear hx)
    all_goals go_ret2
    exact ⟨rfl, HX0.out.trans hx1.out⟩
  · rw [if_neg h0]
    have hne : (ee != 0) = true := by simpa using h0
    go_enter Try.func52, Try.ntmps52
    go_wp2_with fail
    go_region_held3 (fun w' => w'.cell? ⟨w.heap.size, 0, none⟩ = some (.bool o) ∧ w'.cell? ⟨w.heap.size, 1, none⟩ = some (.slice ao m ac))
      (first | exact TW.out _ hx1.out | exact TW.out _ hx1d.out | go_keep)
      (first
        | ((with_reducible refine (C1.out _).mono ?_); rintro e W5 ⟨rfl, hx⟩; replace hx1 := Lib.hid (hx1d.out.trans hx); clear hx)
        | ((with_reducible refine (C2.out _ (Hr.out.ext (HX0.out.trans hx1.out))).mono ?_); rintro e W6 ⟨rfl, hx⟩; replace hx1 := Lib.hid (hx1.out.trans hx); clear hx))
    go_wp2_with fail
    go_ret2
    exact ⟨rfl, HX0.out.trans hx1.out⟩

set_option maxRecDepth 100000 in
set_option maxHeartbeats 2000000 in
theorem Rof_any (l : List SumC) (v : Value) (o : Bool) (k c : ByteArray) (n s : Nat) (w : World) (hr : SRow w v 3 (l.map SumC.cells)) (hf : ∀ x ∈ l, x.fit) (hc : c.size ≤ 2000000000) (hn : n < 4294967296) (hs : s < 4294967296) :
    Calls Try.prog 55 #[.agg #[.bool o, v], .string k, .string c, .int .u32 (n : Int), .int .u32 (s : Int)] w fun e w' => e = .returned (.tuple #[.string (cookV o l k (giveT c (headT s) n) (headT s)).1, .int .i64 (cookV o l k (giveT c (headT s) n) (headT s)).2]) ∧ Ext w w' := by
  have Hr := Lib.hid hr
  obtain ⟨ao, m, ac, rfl⟩ := hr.slice
  clear hr
  have hhd := headT_app s
  have hh8 := size_headT s
  have C0 := Lib.hid fun W => Four_any s W hs
  obtain ⟨f4, hf4⟩ : ∃ y, (⟨(be4 s).toArray⟩ : ByteArray) = y := ⟨_, rfl⟩
  have hs4 : f4.size = 4 := by rw [← hf4]; exact size4 s
  rw [hf4] at C0 hhd
  clear hf4
  obtain ⟨hd, hhd2⟩ : ∃ y, headT s = y := ⟨_, rfl⟩
  rw [hhd2] at hhd hh8 ⊢
  clear hhd2
  have hh : hd.size ≤ 2000000000 := by omega
  have C1 := Lib.hid fun W => RGText_any c hd n W (by omega) hn
  have C2 := Lib.hid fun W h => ROf9_any l (.slice ao m ac) o k (giveT c hd n) W h
  have C3 := Lib.hid fun W => RBytes_any (hashV o l k (giveT c hd n)) W (hashV_lt hf)
  have HX0 := Lib.hid ((Ext.refl w).alloc (.cells #[.bool o, .slice ao m ac] 24))
  have hcell := cell_new w #[.bool o, .slice ao m ac] 24
  have TW := Lib.hid (show ∀ W, Ext (w.alloc (.cells #[.bool o, .slice ao m ac] 24)) W → W.cell? ⟨w.heap.size, 0, none⟩ = some (.bool o) ∧ W.cell? ⟨w.heap.size, 1, none⟩ = some (.slice ao m ac) from fun w2 h => ⟨h.keeps.cell (hcell 0) trivial, h.keeps.cell (hcell 1) trivial⟩)
  clear hcell
  unfold cookV
  obtain ⟨t, ht⟩ : ∃ y, giveT c hd n = y := ⟨_, rfl⟩
  rw [ht] at C1 C2 C3 ⊢
  obtain ⟨y, hy⟩ : ∃ y, hashV o l k t = y := ⟨_, rfl⟩
  obtain ⟨ee, he⟩ : ∃ y, sumE k t = y := ⟨_, rfl⟩
  rw [hy] at C2 C3 ⊢
  rw [he] at C2 ⊢
  clear hy he ht
  have hb8 := size_bytesS y
  obtain ⟨b, hb⟩ : ∃ b, bytesS y = b := ⟨_, rfl⟩
  rw [hb] at C3 hb8 ⊢
  have hhb : (hd.size : Int) ≤ 2000000000 := by omega
  clear hb
  have hx1 := Lib.hid (Ext.refl (w.alloc (.cells #[.bool o, .slice ao m ac] 24)))
  have hx1d := Lib.hid ((Ext.refl (w.alloc (.cells #[.bool o, .slice ao m ac] 24))).drew)
  by_cases h0 : ee = 0
  · subst h0
    rw [if_pos rfl]
    go_enter Try.func55, Try.ntmps55
    go_wp2_with ((with_reducible refine (C0.out _).mono ?_); rintro e W4 ⟨rfl, hx⟩; replace hx1 := Lib.hid (hx1.out.trans hx); replace hx1d := Lib.hid (hx1.out.drew); clear hx)
    try rw [hhd]
    go_region_held3 (fun w' => w'.cell? ⟨w.heap.size, 0, none⟩ = some (.bool o) ∧ w'.cell? ⟨w.heap.size, 1, none⟩ = some (.slice ao m ac))
      (first | exact TW.out _ hx1.out | exact TW.out _ hx1d.out | go_keep)
      (first
        | ((with_reducible refine (C1.out _).mono ?_); rintro e W5 ⟨rfl, hx⟩; replace hx1 := Lib.hid (hx1d.out.trans hx); clear hx)
        | ((with_reducible refine (C2.out _ (Hr.out.ext (HX0.out.trans hx1.out))).mono ?_); rintro e W6 ⟨rfl, hx⟩; replace hx1 := Lib.hid (hx1.out.trans hx); clear hx))
    go_wp2_with ((with_reducible refine (C3.out _).mono ?_); rintro e W7 ⟨rfl, hx⟩; replace hx1 := Lib.hid (hx1.out.trans hx); clear hx)
    all_goals go_ret2
    exact ⟨rfl, HX0.out.trans hx1.out⟩
  · rw [if_neg h0]
    have hne : (ee != 0) = true := by simpa using h0
    go_enter Try.func55, Try.ntmps55
    go_wp2_with ((with_reducible refine (C0.out _).mono ?_); rintro e W4 ⟨rfl, hx⟩; replace hx1 := Lib.hid (hx1.out.trans hx); replace hx1d := Lib.hid (hx1.out.drew); clear hx)
    try rw [hhd]
    go_region_held3 (fun w' => w'.cell? ⟨w.heap.size, 0, none⟩ = some (.bool o) ∧ w'.cell? ⟨w.heap.size, 1, none⟩ = some (.slice ao m ac))
      (first | exact TW.out _ hx1.out | exact TW.out _ hx1d.out | go_keep)
      (first
        | ((with_reducible refine (C1.out _).mono ?_); rintro e W5 ⟨rfl, hx⟩; replace hx1 := Lib.hid (hx1d.out.trans hx); clear hx)
        | ((with_reducible refine (C2.out _ (Hr.out.ext (HX0.out.trans hx1.out))).mono ?_); rintro e W6 ⟨rfl, hx⟩; replace hx1 := Lib.hid (hx1.out.trans hx); clear hx))
    go_wp2_with fail
    go_ret2
    exact ⟨rfl, HX0.out.trans hx1.out⟩

/-- What Make answers. -/
def makeV (o : Bool) (l : List SumC) (k c : ByteArray) (a : Nat) (now : Int) : ByteArray × Int :=
  if c.size = 8 then cookV o l k (giveT c (headT (ofS now).toNat) a) (headT (ofS now).toNat) else (⟨#[]⟩, 2)

set_option maxRecDepth 100000 in
set_option maxHeartbeats 2000000 in
theorem Make_any (l : List SumC) (v : Value) (o : Bool) (k c : ByteArray) (n : Nat) (now : Int) (w : World) (hr : SRow w v 3 (l.map SumC.cells)) (hn : n < 4294967296) :
    Calls Try.prog 24 #[.agg #[.bool o, v], .string k, .string c, .int .u32 (n : Int), .int .i64 now] w fun e w' => e = .returned (.tuple #[.string (makeV o l k c n now).1, .int .i64 (makeV o l k c n now).2]) ∧ Ext w w' := by
  have Hr := Lib.hid hr
  obtain ⟨ao, m, ac, rfl⟩ := hr.slice
  clear hr
  have hsr : 0 ≤ ofS now ∧ ofS now < 4294967296 := by unfold ofS; omega
  obtain ⟨s, hs⟩ : ∃ s : Nat, ofS now = (s : Int) := ⟨(ofS now).toNat, by omega⟩
  have hs2 : s < 4294967296 := by omega
  have C0 := Lib.hid fun W => SOf_any now W
  unfold makeV
  rw [hs] at C0 ⊢
  rw [Int.toNat_natCast]
  clear hs hsr
  have HX0 := Lib.hid ((Ext.refl w).alloc (.cells #[.bool o, .slice ao m ac] 24))
  have hcell := cell_new w #[.bool o, .slice ao m ac] 24
  have TW := Lib.hid (show ∀ W, Ext (w.alloc (.cells #[.bool o, .slice ao m ac] 24)) W → W.cell? ⟨w.heap.size, 0, none⟩ = some (.bool o) ∧ W.cell? ⟨w.heap.size, 1, none⟩ = some (.slice ao m ac) from fun w2 h => ⟨h.keeps.cell (hcell 0) trivial, h.keeps.cell (hcell 1) trivial⟩)
  clear hcell
  have hx1 := Lib.hid (Ext.refl (w.alloc (.cells #[.bool o, .slice ao m ac] 24)))
  have hx1d := Lib.hid ((Ext.refl (w.alloc (.cells #[.bool o, .slice ao m ac] 24))).drew)
  by_cases h8 : c.size = 8
  · rw [if_pos h8]
    have C1 := Lib.hid fun W => AHead_any s W hs2
    have C2 := Lib.hid fun W h => cookie_any l (.slice ao m ac) o k c (headT s) n W h (by omega) (by rw [size_headT]; omega) hn
    obtain ⟨⟨p, q⟩, hpq⟩ : ∃ y, cookV o l k (giveT c (headT s) n) (headT s) = y := ⟨_, rfl⟩
    rw [hpq] at C2 ⊢
    clear hpq
    obtain ⟨hd, hhd⟩ : ∃ y, headT s = y := ⟨_, rfl⟩
    rw [hhd] at C1 C2
    clear hhd
    have h8i : (c.size : Int) = 8 := by omega
    go_enter Try.func24, Try.ntmps24
    go_wp2_with fail
    go_region_held3 (fun w' => w'.cell? ⟨w.heap.size, 0, none⟩ = some (.bool o) ∧ w'.cell? ⟨w.heap.size, 1, none⟩ = some (.slice ao m ac))
      (first | exact TW.out _ hx1.out | exact TW.out _ hx1d.out | go_keep)
      (first
        | ((with_reducible refine (C0.out _).mono ?_); rintro e W5 ⟨rfl, rfl⟩)
        | ((with_reducible refine (C1.out _).mono ?_); rintro e W5 ⟨rfl, hx⟩; replace hx1 := Lib.hid (hx1d.out.trans hx); clear hx)
        | ((with_reducible refine (C2.out _ (Hr.out.ext (HX0.out.trans hx1.out))).mono ?_); rintro e W6 ⟨rfl, hx⟩; replace hx1 := Lib.hid (hx1.out.trans hx); clear hx))
    go_wp2_with fail
    go_ret2
    exact ⟨rfl, HX0.out.trans hx1.out⟩
  · rw [if_neg h8]
    have h8i : ((c.size : Int) != 8) = true := by simp only [bne_iff_ne, ne_eq]; omega
    go_enter Try.func24, Try.ntmps24
    go_wp2_with fail
    go_ret2
    exact ⟨rfl, HX0.out⟩

set_option maxRecDepth 100000 in
set_option maxHeartbeats 2000000 in
theorem RMake12_any (l : List SumC) (v : Value) (o : Bool) (k c : ByteArray) (n : Nat) (now : Int) (w : World) (hr : SRow w v 3 (l.map SumC.cells)) (hf : ∀ x ∈ l, x.fit) (hn : n < 4294967296) :
    Calls Try.prog 25 #[.agg #[.bool o, v], .string k, .string c, .int .u32 (n : Int), .int .i64 now] w fun e w' => e = .returned (.tuple #[.string (makeV o l k c n now).1, .int .i64 (makeV o l k c n now).2]) ∧ Ext w w' := by
  have Hr := Lib.hid hr
  obtain ⟨ao, m, ac, rfl⟩ := hr.slice
  clear hr
  have hsr : 0 ≤ ofS now ∧ ofS now < 4294967296 := by unfold ofS; omega
  obtain ⟨s, hs⟩ : ∃ s : Nat, ofS now = (s : Int) := ⟨(ofS now).toNat, by omega⟩
  have hs2 : s < 4294967296 := by omega
  have C0 := Lib.hid fun W => ROf_any now W
  unfold makeV
  rw [hs] at C0 ⊢
  rw [Int.toNat_natCast]
  clear hs hsr
  have HX0 := Lib.hid ((Ext.refl w).alloc (.cells #[.bool o, .slice ao m ac] 24))
  have hcell := cell_new w #[.bool o, .slice ao m ac] 24
  have TW := Lib.hid (show ∀ W, Ext (w.alloc (.cells #[.bool o, .slice ao m ac] 24)) W → W.cell? ⟨w.heap.size, 0, none⟩ = some (.bool o) ∧ W.cell? ⟨w.heap.size, 1, none⟩ = some (.slice ao m ac) from fun w2 h => ⟨h.keeps.cell (hcell 0) trivial, h.keeps.cell (hcell 1) trivial⟩)
  clear hcell
  have hx1 := Lib.hid (Ext.refl (w.alloc (.cells #[.bool o, .slice ao m ac] 24)))
  have hx1d := Lib.hid ((Ext.refl (w.alloc (.cells #[.bool o, .slice ao m ac] 24))).drew)
  by_cases h8 : c.size = 8
  · rw [if_pos h8]
    have C2 := Lib.hid fun W h => Rof_any l (.slice ao m ac) o k c n s W h hf (by omega) hn hs2
    obtain ⟨⟨p, q⟩, hpq⟩ : ∃ y, cookV o l k (giveT c (headT s) n) (headT s) = y := ⟨_, rfl⟩
    rw [hpq] at C2 ⊢
    clear hpq
    have h8i : (c.size : Int) = 8 := by omega
    go_enter Try.func25, Try.ntmps25
    go_wp2_with fail
    go_region_held3 (fun w' => w'.cell? ⟨w.heap.size, 0, none⟩ = some (.bool o) ∧ w'.cell? ⟨w.heap.size, 1, none⟩ = some (.slice ao m ac))
      (first | exact TW.out _ hx1.out | exact TW.out _ hx1d.out | go_keep)
      (first
        | ((with_reducible refine (C0.out _).mono ?_); rintro e W5 ⟨rfl, rfl⟩)
        | ((with_reducible refine (C2.out _ (Hr.out.ext (HX0.out.trans hx1d.out))).mono ?_); rintro e W6 ⟨rfl, hx⟩; replace hx1 := Lib.hid (hx1d.out.trans hx); clear hx))
    go_wp2_with fail
    go_ret2
    exact ⟨rfl, HX0.out.trans hx1.out⟩
  · rw [if_neg h8]
    have h8i : ((c.size : Int) != 8) = true := by simp only [bne_iff_ne, ne_eq]; omega
    go_enter Try.func25, Try.ntmps25
    go_wp2_with fail
    go_ret2
    exact ⟨rfl, HX0.out⟩
end Go.Proofs.Ytjnaknfnoibncaa
