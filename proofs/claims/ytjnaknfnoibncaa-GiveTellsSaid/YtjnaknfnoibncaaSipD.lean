/- What sip's Sum does. Conditions: strings that Go can hold. -/
import Derived.Test.YtjnaknfnoibncaaSipC
namespace Go.Proofs.Ytjnaknfnoibncaa
open Go Go.RowKit Go.Shelf
attribute [local go_sem] Oper.semAt_some wide_fn wide_depth

/-- A word is taken in. -/
def inM (s : St) (m : Nat) : St := ⟨s.a, s.b, s.c, s.d ^^^ m⟩
def outM (s : St) (m : Nat) : St := ⟨s.a ^^^ m, s.b, s.c, s.d⟩
def endM (s : St) : St := ⟨s.a, s.b, s.c ^^^ 255, s.d⟩
def wordM (s : St) (m : Nat) : St := outM (roundsM 2 (inM s m)) m
def beginM (x y : Nat) : St := ⟨x ^^^ 8317987319222330741, y ^^^ 7237128888997146477, x ^^^ 7816392313619706465, y ^^^ 8387220255154660723⟩
def wordsM (s : St) (l : List Nat) : St := l.foldl wordM s
def lastM (s : St) : St := roundsM 4 (endM s)
def foldM (s : St) : Nat := s.a ^^^ s.b ^^^ s.c ^^^ s.d
/-- What Sum answers. -/
def sumM (key s : ByteArray) : Nat := foldM (lastM (wordsM (beginM (lowB (key.extract 0 8).data.toList) (lowB (key.extract 8 key.size).data.toList)) (wordsB s)))
theorem beginM_ok {x y : Nat} (hx : x < 18446744073709551616) (hy : y < 18446744073709551616) : (beginM x y).ok := ⟨xorM_lt hx (by decide), xorM_lt hy (by decide), xorM_lt hx (by decide), xorM_lt hy (by decide)⟩
theorem inM_ok {s : St} (h : s.ok) {m : Nat} (hm : m < 18446744073709551616) : (inM s m).ok := ⟨h.a, h.b, h.c, xorM_lt h.d hm⟩
theorem outM_ok {s : St} (h : s.ok) {m : Nat} (hm : m < 18446744073709551616) : (outM s m).ok := ⟨xorM_lt h.a hm, h.b, h.c, h.d⟩
theorem endM_ok {s : St} (h : s.ok) : (endM s).ok := ⟨h.a, h.b, xorM_lt h.c (by decide), h.d⟩
theorem wordM_ok {s : St} (h : s.ok) {m : Nat} (hm : m < 18446744073709551616) : (wordM s m).ok := outM_ok (roundsM_ok (inM_ok h hm) 2) hm
theorem wordsM_ok : ∀ (l : List Nat) {s : St}, s.ok → (∀ m ∈ l, m < 18446744073709551616) → (wordsM s l).ok
  | [], _, h, _ => h
  | m :: l, s, h, hl => wordsM_ok l (s := wordM s m) (wordM_ok h (hl m (by simp))) (fun x hx => hl x (by simp [hx]))
theorem wordsM_snoc (s : St) (l : List Nat) (m : Nat) : wordsM s (l ++ [m]) = wordM (wordsM s l) m := by simp [wordsM]
theorem lastM_ok {s : St} (h : s.ok) : (lastM s).ok := roundsM_ok (endM_ok h) 4
theorem foldM_lt {s : St} (h : s.ok) : foldM s < 18446744073709551616 := xorM_lt (xorM_lt (xorM_lt h.a h.b) h.c) h.d
theorem wordsB_lt (s : ByteArray) : ∀ m ∈ wordsB s, m < 18446744073709551616 := by
  intro m hm
  rw [wordsB, List.mem_map] at hm
  obtain ⟨j, hj, rfl⟩ := hm
  rw [List.mem_range] at hj
  exact wordJ_lt s j (by omega)
theorem sumM_lt (key s : ByteArray) (hk : key.size = 16) : sumM key s < 18446744073709551616 :=
  foldM_lt (lastM_ok (wordsM_ok _ (beginM_ok (lowB_lt8 (by rw [len_list, ByteArray.size_extract]; omega)) (lowB_lt8 (by rw [len_list, ByteArray.size_extract]; omega))) (wordsB_lt s)))

set_option maxRecDepth 100000 in
set_option maxHeartbeats 1000000 in
theorem begin_any (key : ByteArray) (w : World) (hk : key.size = 16) :
    Calls Try.prog 84 #[.string key] w fun e w' => e = .returned (beginM (lowB (key.extract 0 8).data.toList) (lowB (key.extract 8 key.size).data.toList)).agg ∧ Ext w w' := by
  have C1 := fun W => number_any (key.extract 0 8) W (by rw [ByteArray.size_extract]; omega)
  have C2 := fun W => number_any (key.extract 8 key.size) W (by rw [ByteArray.size_extract]; omega)
  have h1 := lowB_lt8 (l := (key.extract 0 8).data.toList) (by rw [len_list, ByteArray.size_extract]; omega)
  have h2 := lowB_lt8 (l := (key.extract 8 key.size).data.toList) (by rw [len_list, ByteArray.size_extract]; omega)
  obtain ⟨x, hx⟩ : ∃ x, lowB (key.extract 0 8).data.toList = x := ⟨_, rfl⟩
  obtain ⟨y, hy⟩ : ∃ y, lowB (key.extract 8 key.size).data.toList = y := ⟨_, rfl⟩
  rw [hx] at C1 h1
  rw [hy] at C2 h2
  rw [hx, hy]
  have e1 := Lib.hid (bits_xor_u64_nat x 8317987319222330741 h1 (by decide))
  have e2 := Lib.hid (bits_xor_u64_nat y 7237128888997146477 h2 (by decide))
  have e3 := Lib.hid (bits_xor_u64_nat x 7816392313619706465 h1 (by decide))
  have e4 := Lib.hid (bits_xor_u64_nat y 8387220255154660723 h2 (by decide))
  have D1 := Lib.hid C1
  have D2 := Lib.hid C2
  have k8 : (8 : Int) ≤ (key.size : Int) := by omega
  clear hx hy C1 C2 hk
  go_enter Try.func84, Try.ntmps84
  go_wp2_with fail
  refine wp_region_still (by kernel_rfl) (by kernel_rfl) ?_
  iterate 2 still_step
  still_call ((D1.out _).mono fun _ _ h => ⟨h.1, h.2.symm⟩)
  iterate 2 still_step
  still_call ((D2.out _).mono fun _ _ h => ⟨h.1, h.2.symm⟩)
  iterate 2 still_step
  refine wpStill_nil ?_
  go_wp2_with fail
  have g1 : Go.bits .xor .u64 (x : Int) 8317987319222330741 = ((x ^^^ 8317987319222330741 : Nat) : Int) := e1.out
  have g2 : Go.bits .xor .u64 (y : Int) 7237128888997146477 = ((y ^^^ 7237128888997146477 : Nat) : Int) := e2.out
  have g3 : Go.bits .xor .u64 (x : Int) 7816392313619706465 = ((x ^^^ 7816392313619706465 : Nat) : Int) := e3.out
  have g4 : Go.bits .xor .u64 (y : Int) 8387220255154660723 = ((y ^^^ 8387220255154660723 : Nat) : Int) := e4.out
  rw [g1, g2, g3, g4]
  have hn : NumsAt (w.alloc (.cells (encU (beginM x y).list).toArray 120)) w.heap.size 120 (beginM x y).list := NumsAt.new w _ _
  refine bodyPost_ret (v := (beginM x y).agg) ?_ rfl ⟨rfl, ((Ext.refl w).alloc _).drew⟩
  exact results_cell_row (P := Try.prog) (fn := Try.f84) (p := 2) (ty := 120) rfl _ _ w.heap.size _ (encU (beginM x y).list).toArray _ _ rfl hn Try.underlying120 rfl (by kernel_rfl)

def sumR (key s : ByteArray) : Array Value := if key.size = 16 then (if s.size ≤ 65536 then #[.int .u64 (sumM key s : Nat), .int .i64 0] else #[.int .u64 0, .int .i64 7]) else #[.int .u64 0, .int .i64 2]
set_option maxRecDepth 100000 in
set_option maxHeartbeats 2000000 in
theorem Sum_go (key s : ByteArray) (w : World) (hk : key.size = 16) (hs : s.size ≤ 65536) :
    Calls Try.prog 65 #[.string key, .string s] w fun e w' => e = .returned (.tuple #[.int .u64 (sumM key s : Nat), .int .i64 0]) ∧ Ext w w' := by
  have CB := Lib.hid fun W => begin_any key W hk
  have hok0 := beginM_ok (lowB_lt8 (l := (key.extract 0 8).data.toList) (by rw [len_list, ByteArray.size_extract]; omega)) (lowB_lt8 (l := (key.extract 8 key.size).data.toList) (by rw [len_list, ByteArray.size_extract]; omega))
  have HS : Hid (sumM key s = foldM (lastM (wordsM (beginM (lowB (key.extract 0 8).data.toList) (lowB (key.extract 8 key.size).data.toList)) (wordsB s)))) := Lib.hid rfl
  obtain ⟨s0, hs0⟩ : ∃ s0, beginM (lowB (key.extract 0 8).data.toList) (lowB (key.extract 8 key.size).data.toList) = s0 := ⟨_, rfl⟩
  rw [hs0] at CB hok0 HS
  have h16 : ((key.size : Int) != 16) = false := by rw [hk]; rfl
  have h65 : decide ((65536 : Int) < (s.size : Int)) = false := decide_eq_false (by omega)
  have Hok := Lib.hid hok0
  clear hs0 hok0 hk
  refine (callsIn_wide (n := 9)).1 ?_
  refine callsIn_of_wp_marks Try.func65 rfl trivial ?_ rfl
  simp only [Try.ntmps65, List.size_toArray, List.length_cons, List.length_nil, Nat.reduceAdd, Nat.reduceSub, Array.replicate_succ, Array.replicate_zero, List.push_toArray, List.append_toArray, List.nil_append, List.cons_append]
  gi_wp2_with fail
  refine (callsIn_wide.2 (CB.out _)).mono ?_
  rintro e w1 ⟨rfl, hx1⟩
  have HX1 := Lib.hid hx1; clear hx1
  simp only [St.agg, St.list, encU, List.map_cons, List.map_nil]
  gi_wp2_with (gi_at_call 85; refine (callsIn_wide.2 (words_any _ _)).mono ?_; rintro e w' ⟨rfl, rfl⟩)
  have hN : Boxed ((w1.alloc (.cells (encU s0.list).toArray 120)).alloc (.cells #[.string s] 9)) (w1.heap.size + 1) 9 (.string s) := by have := Boxed.new (w1.alloc (.cells (encU s0.list).toArray 120)) 9 (.string s); simpa using this
  have hB : NumsAt ((w1.alloc (.cells (encU s0.list).toArray 120)).alloc (.cells #[.string s] 9)) w1.heap.size 120 s0.list :=
    (NumsAt.new w1 _ _).keeps (K := fun _ => True) ((Keeps.refl _ _).alloc _) trivial
  have hK : Keeps (fun k => k < w.heap.size) w ((w1.alloc (.cells (encU s0.list).toArray 120)).alloc (.cells #[.string s] 9)) := (((HX1.out.keeps.mono fun _ _ _ => trivial).alloc _).alloc _)
  have hz : ((w1.alloc (.cells (encU s0.list).toArray 120)).alloc (.cells #[.string s] 9)).heap.size = w1.heap.size + 2 := by simp
  have hzw := HX1.out.size
  change Code.wpIn _ _ _ _ _ _ ((w1.alloc (.cells (encU s0.list).toArray 120)).alloc (.cells #[.string s] 9))
  generalize (w1.alloc (.cells (encU s0.list).toArray 120)).alloc (.cells #[.string s] 9) = w2 at hB hN hK hz ⊢
  refine wpIn_rangeX rfl wide_room (gf := 97) (lb := #[.pointer (some ⟨w1.heap.size + 1, 0, none⟩)]) rfl trivial (enters_of Try.func97 (by kernel_rfl) rfl)
    (words1_seq _ _ s w2 hN.cell) (Keeps.refl _ _) (fun k h => by rw [hz]; subst h; omega) (fun _ => rfl)
    (fun _ pre A => NumsAt A w1.heap.size 120 (wordsM s0 pre).list ∧ Keeps (fun k => k < w.heap.size) w A)
    (fun _ _ _ _ => False)
    (fun D pre A A' h k => ⟨h.1.keeps k (by omega), h.2.trans (k.mono fun _ _ h => by omega)⟩)
    (fun _ _ _ _ _ h _ => h)
    (fun D W _ _ h => ⟨hB.keeps h (by omega), hK.trans (h.mono fun _ _ h => by omega)⟩)
    (fun _ x a' _ => a' = { tmps := #[.string key, .string s, undef, undef, .int .u64 0, .int .i64 0, .pointer (some ⟨w1.heap.size, 0, none⟩), .int .u64 (x : Nat), .string key, .int .i64 key.size, .bool false, .string s, .int .i64 s.size, .bool false, .string key, .agg #[.int .u64 s0.a, .int .u64 s0.b, .int .u64 s0.c, .int .u64 s0.d], .string s, .func (.func 97) #[] #[.pointer (some ⟨w1.heap.size + 1, 0, none⟩)], .int .u64 (x : Nat), undef, undef, undef, undef, undef, undef, undef, undef, undef, undef, undef, undef, undef, undef, undef, undef, undef, undef, undef, undef, undef, undef, undef, undef, undef, undef, undef, undef, undef], defers := [] })
    (fun _ _ _ _ _ h _ => h) ?assign ?body ?done ?stop
  case assign =>
    intro l D x W K _ hK
    gi_wp2
    exact hK _ _ (Keeps.refl _ _) rfl
  case body =>
    rintro l D pre x rest a' A hx hD hDW ⟨r, hr⟩ ⟨hb, hk⟩ rfl
    have hx64 : x < 18446744073709551616 := wordsB_lt s x (by rw [hx]; simp)
    have hpre : ∀ m ∈ pre, m < 18446744073709551616 := fun m hm => wordsB_lt s m (by rw [hx]; simp [hm])
    have hst := wordsM_ok pre Hok.out hpre
    have HW : Hid (wordsM s0 (pre ++ [x]) = wordM (wordsM s0 pre) x) := Lib.hid (wordsM_snoc _ _ _)
    obtain ⟨st, hste⟩ : ∃ st, wordsM s0 pre = st := ⟨_, rfl⟩
    rw [hste] at hb hst HW
    have CR := fun W => Round_any (inM st x) 2 W (inM_ok hst hx64) (by decide) (by decide)
    have HW2 : Hid (wordM st x = outM (roundsM 2 (inM st x)) x) := Lib.hid rfl
    have hs2 : (roundsM 2 (inM st x)).ok := roundsM_ok (inM_ok hst hx64) 2
    obtain ⟨s2, hs2e⟩ : ∃ s2, roundsM 2 (inM st x) = s2 := ⟨_, rfl⟩
    have h2 : (min (2 : Int) 64).toNat = 2 := rfl
    rw [h2, hs2e] at CR
    simp only [St.agg, St.list, encU, inM, List.map_cons, List.map_nil] at CR
    have CR := Lib.hid CR
    rw [hs2e] at HW2 hs2
    have hx1 := bits_xor_u64_nat st.d x hst.d hx64
    have hx2 := bits_xor_u64_nat s2.a x hs2.a hx64
    have c0 := hb.cell (i := 0) (x := st.a) rfl
    have c1 := hb.cell (i := 1) (x := st.b) rfl
    have c2 := hb.cell (i := 2) (x := st.c) rfl
    have c3 := hb.cell (i := 3) (x := st.d) rfl
    have f3 := hb.frozen 3
    have Hb1 : Hid (NumsAt (A.setCell ⟨w1.heap.size, 3, none⟩ (.int .u64 (st.d ^^^ x : Nat))) w1.heap.size 120 (inM st x).list) := Lib.hid (hb.set 3 (st.d ^^^ x))
    have Hk := Lib.hid hk; clear hk
    have Hx := Lib.hid hx; clear hx
    clear hste hs2e h2 hb
    gi_wp2_with fail
    refine (callsIn_wide.2 (CR.out _)).inRound l |>.mono ?_
    rintro e w3 ⟨rfl, hx3⟩
    have hb3 := Hb1.out.keeps hx3.keeps trivial
    have hkA : Keeps (fun k => k ≠ w1.heap.size) A w3 := ((Keeps.refl _ A).setCell (p := ⟨w1.heap.size, 3, none⟩) (fun h => h rfl) _).trans (hx3.keeps.mono fun _ _ _ => trivial)
    have d0 := hb3.cell (i := 0) (x := st.a) rfl
    have d1 := hb3.cell (i := 1) (x := st.b) rfl
    have d2 := hb3.cell (i := 2) (x := st.c) rfl
    have d3 := hb3.cell (i := 3) (x := st.d ^^^ x) rfl
    have e0 := hb3.frozen 0
    have e1 := hb3.frozen 1
    have e2 := hb3.frozen 2
    have e3 := hb3.frozen 3
    have Hb3 := Lib.hid hb3
    have HkA := Lib.hid hkA
    clear hb3 hkA hx3 c0 c1 c2 c3 f3 CR
    gi_wp2_with fail
    have hn := ((((Hb3.out.set 0 s2.a).set 1 s2.b).set 2 s2.c).set 3 s2.d).set 0 (s2.a ^^^ x)
    have hkn : ∀ K : Nat → Prop, ¬ K w1.heap.size → Keeps K w3 (((((w3.setCell ⟨w1.heap.size, 0, none⟩ (.int .u64 (s2.a : Nat))).setCell ⟨w1.heap.size, 1, none⟩ (.int .u64 (s2.b : Nat))).setCell ⟨w1.heap.size, 2, none⟩ (.int .u64 (s2.c : Nat))).setCell ⟨w1.heap.size, 3, none⟩ (.int .u64 (s2.d : Nat))).setCell ⟨w1.heap.size, 0, none⟩ (.int .u64 (s2.a ^^^ x : Nat))) := fun K h =>
      (((((Keeps.refl K w3).setCell (p := ⟨w1.heap.size, 0, none⟩) h _).setCell (p := ⟨w1.heap.size, 1, none⟩) h _).setCell (p := ⟨w1.heap.size, 2, none⟩) h _).setCell (p := ⟨w1.heap.size, 3, none⟩) h _).setCell (p := ⟨w1.heap.size, 0, none⟩) h _
    refine ⟨(HkA.out.mono fun j _ h => by omega).trans (hkn _ (by omega)), ?_, (Hk.out.trans (HkA.out.mono fun j _ h => by omega)).trans (hkn _ (by omega))⟩
    rw [HW.out, HW2.out]
    exact hn
  case done =>
    rintro D A hD hDW ⟨hb, hk⟩ hd
    have hst := wordsM_ok (wordsB s) Hok.out (wordsB_lt s)
    obtain ⟨st, hste⟩ : ∃ st, wordsM s0 (wordsB s) = st := ⟨_, rfl⟩
    rw [hste] at hb hst HS
    have CR := fun W => Round_any (endM st) 4 W (endM_ok hst) (by decide) (by decide)
    have HW2 : Hid (lastM st = roundsM 4 (endM st)) := Lib.hid rfl
    have hs2 : (roundsM 4 (endM st)).ok := roundsM_ok (endM_ok hst) 4
    obtain ⟨s2, hs2e⟩ : ∃ s2, roundsM 4 (endM st) = s2 := ⟨_, rfl⟩
    have h2 : (min (4 : Int) 64).toNat = 4 := rfl
    rw [h2, hs2e] at CR
    simp only [St.agg, St.list, encU, endM, List.map_cons, List.map_nil] at CR
    have CR := Lib.hid CR
    rw [hs2e] at HW2 hs2
    have hx1 : Go.bits .xor .u64 (st.c : Int) 255 = ((st.c ^^^ 255 : Nat) : Int) := bits_xor_u64_nat st.c 255 hst.c (by decide)
    have y1 := xorM_lt hs2.a hs2.b
    have y2 := xorM_lt y1 hs2.c
    have hx2 := bits_xor_u64_nat s2.a s2.b hs2.a hs2.b
    have hx3 := bits_xor_u64_nat (s2.a ^^^ s2.b) s2.c y1 hs2.c
    have hx4 := bits_xor_u64_nat (s2.a ^^^ s2.b ^^^ s2.c) s2.d y2 hs2.d
    have c0 := hb.cell (i := 0) (x := st.a) rfl
    have c1 := hb.cell (i := 1) (x := st.b) rfl
    have c2 := hb.cell (i := 2) (x := st.c) rfl
    have c3 := hb.cell (i := 3) (x := st.d) rfl
    have f2 := hb.frozen 2
    have Hb1 : Hid (NumsAt (A.setCell ⟨w1.heap.size, 2, none⟩ (.int .u64 (st.c ^^^ 255 : Nat))) w1.heap.size 120 (endM st).list) := Lib.hid (hb.set 2 (st.c ^^^ 255))
    have Hk := Lib.hid hk; clear hk
    have Hd := Lib.hid hd; clear hd
    clear hste hs2e h2 hb y1 y2
    gi_wp2_with fail
    refine (callsIn_wide.2 (CR.out _)).mono ?_
    rintro e w3 ⟨rfl, hx3⟩
    have hb3 := Hb1.out.keeps hx3.keeps trivial
    have hkA : Keeps (fun k => k ≠ w1.heap.size) A w3 := ((Keeps.refl _ A).setCell (p := ⟨w1.heap.size, 2, none⟩) (fun h => h rfl) _).trans (hx3.keeps.mono fun _ _ _ => trivial)
    have d0 := hb3.cell (i := 0) (x := st.a) rfl
    have d1 := hb3.cell (i := 1) (x := st.b) rfl
    have d2 := hb3.cell (i := 2) (x := st.c ^^^ 255) rfl
    have d3 := hb3.cell (i := 3) (x := st.d) rfl
    have e0 := hb3.frozen 0
    have e1 := hb3.frozen 1
    have e2 := hb3.frozen 2
    have e3 := hb3.frozen 3
    have Hb3 := Lib.hid hb3
    have HkA := Lib.hid hkA
    clear hb3 hkA hx3 c0 c1 c2 c3 f2 CR
    gi_wp2_with fail
    have hkn : ∀ K : Nat → Prop, ¬ K w1.heap.size → Keeps K w3 ((((w3.setCell ⟨w1.heap.size, 0, none⟩ (.int .u64 (s2.a : Nat))).setCell ⟨w1.heap.size, 1, none⟩ (.int .u64 (s2.b : Nat))).setCell ⟨w1.heap.size, 2, none⟩ (.int .u64 (s2.c : Nat))).setCell ⟨w1.heap.size, 3, none⟩ (.int .u64 (s2.d : Nat))) := fun K h =>
      ((((Keeps.refl K w3).setCell (p := ⟨w1.heap.size, 0, none⟩) h _).setCell (p := ⟨w1.heap.size, 1, none⟩) h _).setCell (p := ⟨w1.heap.size, 2, none⟩) h _).setCell (p := ⟨w1.heap.size, 3, none⟩) h _
    have hd0 := Hd.out
    rw [hz] at hd0
    have hd3 := (hkn (fun j => j = w1.heap.size + 2) (by omega)).heap (HkA.out.heap hd0 (by omega)) rfl
    refine ⟨by simp, .inl ⟨_, _, rfl, run_takeDeferred hd3, ?_⟩⟩
    refine ⟨_, results_tmp2 rfl _ _ _, by rw [HS.out, HW2.out]; rfl, ?_⟩
    exact (((Hk.out.trans (HkA.out.mono fun j _ h => by omega)).trans (hkn _ (by omega))).putObj (by omega) _).ext fun _ h => h
  case stop =>
    rintro c D pre x rest W _ _ _ h
    exact h.elim

set_option maxRecDepth 100000 in
set_option maxHeartbeats 1000000 in
theorem Sum_any (key s : ByteArray) (w : World) :
    Calls Try.prog 65 #[.string key, .string s] w fun e w' => e = .returned (.tuple (sumR key s)) ∧ Ext w w' := by
  unfold sumR
  by_cases hk : key.size = 16
  · by_cases hs : s.size ≤ 65536
    · rw [if_pos hk, if_pos hs]
      exact Sum_go key s w hk hs
    · rw [if_pos hk, if_neg hs]
      have h16 : ((key.size : Int) != 16) = false := by rw [hk]; rfl
      have h65 : decide ((65536 : Int) < (s.size : Int)) = true := decide_eq_true (by omega)
      clear hk
      go_enter Try.func65, Try.ntmps65
      go_wp2_with fail
      go_ret2
      exact ⟨rfl, Ext.refl _⟩
  · rw [if_neg hk]
    have h16 : ((key.size : Int) != 16) = true := by simp only [bne_iff_ne, ne_eq]; omega
    go_enter Try.func65, Try.ntmps65
    go_wp2_with fail
    go_ret2
    exact ⟨rfl, Ext.refl _⟩
end Go.Proofs.Ytjnaknfnoibncaa
