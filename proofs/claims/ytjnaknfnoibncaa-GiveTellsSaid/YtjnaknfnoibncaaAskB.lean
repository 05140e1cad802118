/- Clients' cookies: ask's Client and the document's. Conditions: numbers of 32 bits. -/
import Derived.Test.YtjnaknfnoibncaaAskA
import Derived.Test.YtjnaknfnoibncaaKeyRefA
import Derived.Test.YtjnaknfnoibncaaSipS
namespace Go.Proofs.Ytjnaknfnoibncaa
open Go Go.RowKit Go.Shelf
attribute [local go_sem] Oper.semAt_some wide_fn wide_depth

theorem size_bytesS (n : Nat) : (bytesS n).size = 8 := rfl
/-- A sum's bytes, or why there are none. -/
def cliV (o : Bool) (l : List SumC) (k t : ByteArray) : ByteArray × Int := if sumE k t = 0 then (bytesS (hashV o l k t), 0) else (⟨#[]⟩, sumE k t)
def cookV (o : Bool) (l : List SumC) (k t h : ByteArray) : ByteArray × Int := if sumE k t = 0 then (h ++ bytesS (hashV o l k t), 0) else (⟨#[]⟩, sumE k t)
/-- Numbers of entries are of 64 bits, and so are sums. -/
theorem hashV_lt {o : Bool} {l : List SumC} {k s : ByteArray} (hf : ∀ x ∈ l, x.fit) : hashV o l k s < 18446744073709551616 := by
  have h0 : sumV k s < 18446744073709551616 := by
    unfold sumV
    split
    · rename_i hk
      split
      · exact sumM_lt _ _ hk
      · decide
    · decide
  unfold hashV
  split
  · exact h0
  · split
    · unfold entryN
      split
      · rename_i i _
        cases hg : l[i]? with
        | none => simp
        | some x => exact (hf x (List.mem_of_getElem? hg)).n
      · decide
    · exact h0

set_option maxRecDepth 100000 in
set_option maxHeartbeats 2000000 in
theorem AClient_any (l : List SumC) (v : Value) (o : Bool) (k : ByteArray) (n : Nat) (w : World) (hr : SRow w v 3 (l.map SumC.cells)) (hn : n < 4294967296) :
    Calls Try.prog 12 #[.agg #[.bool o, v], .string k, .int .u32 (n : Int)] w fun e w' => e = .returned (.tuple #[.string (cliV o l k (askT n)).1, .int .i64 (cliV o l k (askT n)).2]) ∧ Ext w w' := by
  have Hr := Lib.hid hr
  obtain ⟨ao, m, ac, rfl⟩ := hr.slice
  clear hr
  have C1 := Lib.hid fun W => AText_any n W hn
  have C2 := Lib.hid fun W h => HOf_any l (.slice ao m ac) o k (askT n) W h
  have C3 := Lib.hid fun W => Bytes_any (hashV o l k (askT n)) W
  have HX0 := Lib.hid ((Ext.refl w).alloc (.cells #[.bool o, .slice ao m ac] 24))
  have hcell := cell_new w #[.bool o, .slice ao m ac] 24
  have TW := Lib.hid (show ∀ W, Ext (w.alloc (.cells #[.bool o, .slice ao m ac] 24)) W → W.cell? ⟨w.heap.size, 0, none⟩ = some (.bool o) ∧ W.cell? ⟨w.heap.size, 1, none⟩ = some (.slice ao m ac) from fun w2 h => ⟨h.keeps.cell (hcell 0) trivial, h.keeps.cell (hcell 1) trivial⟩)
  clear hcell
  unfold cliV
  obtain ⟨t, ht⟩ : ∃ y, askT n = y := ⟨_, rfl⟩
  rw [ht] at C1 C2 C3 ⊢
  obtain ⟨y, hy⟩ : ∃ y, hashV o l k t = y := ⟨_, rfl⟩
  obtain ⟨ee, he⟩ : ∃ y, sumE k t = y := ⟨_, rfl⟩
  rw [hy] at C2 C3 ⊢
  rw [he] at C2 ⊢
  clear hy he ht
  obtain ⟨b, hb⟩ : ∃ b, bytesS y = b := ⟨_, rfl⟩
  rw [hb] at C3 ⊢
  clear hb
  have hx1 := Lib.hid (Ext.refl (w.alloc (.cells #[.bool o, .slice ao m ac] 24)))
  have hx1d := Lib.hid ((Ext.refl (w.alloc (.cells #[.bool o, .slice ao m ac] 24))).drew)
  by_cases h0 : ee = 0
  · subst h0
    rw [if_pos rfl]
    go_enter Try.func12, Try.ntmps12
    go_wp2_with fail
    go_region_held3 (fun w' => w'.cell? ⟨w.heap.size, 0, none⟩ = some (.bool o) ∧ w'.cell? ⟨w.heap.size, 1, none⟩ = some (.slice ao m ac))
      (first | exact TW.out _ hx1.out | exact TW.out _ hx1d.out | go_keep)
      (first
        | ((with_reducible refine (C1.out _).mono ?_); rintro e W5 ⟨rfl, hx⟩; replace hx1 := Lib.hid (hx1d.out.trans hx); clear hx)
        | ((with_reducible refine (C2.out _ (Hr.out.ext (HX0.out.trans hx1.out))).mono ?_); rintro e W6 ⟨rfl, hx⟩; replace hx1 := Lib.hid (hx1.out.trans hx); clear hx))
    go_wp2_with ((with_reducible refine (C3.out _).mono ?_); rintro e W7 ⟨rfl, hx⟩; replace hx1 := Lib.hid (hx1.out.trans hx); clear hx)
    go_ret2
    exact ⟨rfl, HX0.out.trans hx1.out⟩
  · rw [if_neg h0]
    have hne : (ee != 0) = true := by simpa using h0
    go_enter Try.func12, Try.ntmps12
    go_wp2_with fail
    go_region_held3 (fun w' => w'.cell? ⟨w.heap.size, 0, none⟩ = some (.bool o) ∧ w'.cell? ⟨w.heap.size, 1, none⟩ = some (.slice ao m ac))
      (first | exact TW.out _ hx1.out | exact TW.out _ hx1d.out | go_keep)
      (first
        | ((with_reducible refine (C1.out _).mono ?_); rintro e W5 ⟨rfl, hx⟩; replace hx1 := Lib.hid (hx1d.out.trans hx); clear hx)
        | ((with_reducible refine (C2.out _ (Hr.out.ext (HX0.out.trans hx1.out))).mono ?_); rintro e W6 ⟨rfl, hx⟩; replace hx1 := Lib.hid (hx1.out.trans hx); clear hx))
    go_wp2_with fail
    go_ret2
    exact ⟨rfl, HX0.out.trans hx1.out⟩
set_option maxRecDepth 100000 in
set_option maxHeartbeats 2000000 in
theorem RAClient_any (l : List SumC) (v : Value) (o : Bool) (k : ByteArray) (n : Nat) (w : World) (hr : SRow w v 3 (l.map SumC.cells)) (hf : ∀ x ∈ l, x.fit) (hn : n < 4294967296) :
    Calls Try.prog 13 #[.agg #[.bool o, v], .string k, .int .u32 (n : Int)] w fun e w' => e = .returned (.tuple #[.string (cliV o l k (askT n)).1, .int .i64 (cliV o l k (askT n)).2]) ∧ Ext w w' := by
  have Hr := Lib.hid hr
  obtain ⟨ao, m, ac, rfl⟩ := hr.slice
  clear hr
  have C1 := Lib.hid fun W => RAText_any n W hn
  have C2 := Lib.hid fun W h => ROf9_any l (.slice ao m ac) o k (askT n) W h
  have C3 := Lib.hid fun W => RBytes_any (hashV o l k (askT n)) W (hashV_lt hf)
  have HX0 := Lib.hid ((Ext.refl w).alloc (.cells #[.bool o, .slice ao m ac] 24))
  have hcell := cell_new w #[.bool o, .slice ao m ac] 24
  have TW := Lib.hid (show ∀ W, Ext (w.alloc (.cells #[.bool o, .slice ao m ac] 24)) W → W.cell? ⟨w.heap.size, 0, none⟩ = some (.bool o) ∧ W.cell? ⟨w.heap.size, 1, none⟩ = some (.slice ao m ac) from fun w2 h => ⟨h.keeps.cell (hcell 0) trivial, h.keeps.cell (hcell 1) trivial⟩)
  clear hcell
  unfold cliV
  obtain ⟨t, ht⟩ : ∃ y, askT n = y := ⟨_, rfl⟩
  rw [ht] at C1 C2 C3 ⊢
  obtain ⟨y, hy⟩ : ∃ y, hashV o l k t = y := ⟨_, rfl⟩
  obtain ⟨ee, he⟩ : ∃ y, sumE k t = y := ⟨_, rfl⟩
  rw [hy] at C2 C3 ⊢
  rw [he] at C2 ⊢
  clear hy he ht
  obtain ⟨b, hb⟩ : ∃ b, bytesS y = b := ⟨_, rfl⟩
  rw [hb] at C3 ⊢
  clear hb
  have hx1 := Lib.hid (Ext.refl (w.alloc (.cells #[.bool o, .slice ao m ac] 24)))
  have hx1d := Lib.hid ((Ext.refl (w.alloc (.cells #[.bool o, .slice ao m ac] 24))).drew)
  by_cases h0 : ee = 0
  · subst h0
    rw [if_pos rfl]
    go_enter Try.func13, Try.ntmps13
    go_wp2_with fail
    go_region_held3 (fun w' => w'.cell? ⟨w.heap.size, 0, none⟩ = some (.bool o) ∧ w'.cell? ⟨w.heap.size, 1, none⟩ = some (.slice ao m ac))
      (first | exact TW.out _ hx1.out | exact TW.out _ hx1d.out | go_keep)
      (first
        | ((with_reducible refine (C1.out _).mono ?_); rintro e W5 ⟨rfl, hx⟩; replace hx1 := Lib.hid (hx1d.out.trans hx); clear hx)
        | ((with_reducible refine (C2.out _ (Hr.out.ext (HX0.out.trans hx1.out))).mono ?_); rintro e W6 ⟨rfl, hx⟩; replace hx1 := Lib.hid (hx1.out.trans hx); clear hx))
    go_wp2_with ((with_reducible refine (C3.out _).mono ?_); rintro e W7 ⟨rfl, hx⟩; replace hx1 := Lib.hid (hx1.out.trans hx); clear hx)
    go_ret2
    exact ⟨rfl, HX0.out.trans hx1.out⟩
  · rw [if_neg h0]
    have hne : (ee != 0) = true := by simpa using h0
    go_enter Try.func13, Try.ntmps13
    go_wp2_with fail
    go_region_held3 (fun w' => w'.cell? ⟨w.heap.size, 0, none⟩ = some (.bool o) ∧ w'.cell? ⟨w.heap.size, 1, none⟩ = some (.slice ao m ac))
      (first | exact TW.out _ hx1.out | exact TW.out _ hx1d.out | go_keep)
      (first
        | ((with_reducible refine (C1.out _).mono ?_); rintro e W5 ⟨rfl, hx⟩; replace hx1 := Lib.hid (hx1d.out.trans hx); clear hx)
        | ((with_reducible refine (C2.out _ (Hr.out.ext (HX0.out.trans hx1.out))).mono ?_); rintro e W6 ⟨rfl, hx⟩; replace hx1 := Lib.hid (hx1.out.trans hx); clear hx))
    go_wp2_with fail
    go_ret2
    exact ⟨rfl, HX0.out.trans hx1.out⟩
end Go.Proofs.Ytjnaknfnoibncaa
