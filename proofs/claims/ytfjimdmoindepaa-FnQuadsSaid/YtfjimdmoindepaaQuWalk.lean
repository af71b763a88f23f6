/- FnQuads: the law's own walk. -/
import Derived.Test.YtfjimdmoindepaaMgD
import Derived.Test.YtfjimdmoindepaaQuSplitImpl
import Derived.Test.YtfjimdmoindepaaMgE
import Derived.Test.YtfjimdmoindepaaMgC
import Derived.Deep.DeepCutAuto
namespace Go.Proofs.Ytfjimdmoindepaa.Sg
open Go.RowKit Pt NewI NewII Cur
theorem outC_alloc {Bo : Nat} {n : Int} {x : ByteArray} {W : World} (h : OutC Bo n x W) (o : Obj) : OutC Bo n x (W.alloc o) := h.on ((Below.refl _ _).alloc (Nat.le_refl _) o)
theorem bits_and (a b : Nat) (ha : a < 1024) (hb : b < 1024) : bits BinOp.and IntKind.i64 (a : Int) (b : Int) = ((a &&& b : Nat) : Int) := by
  have hl : a &&& b < 1024 := Nat.and_lt_two_pow (n := 10) a hb
  show IntKind.i64.wrap ((BitVec.ofInt 64 a &&& BitVec.ofInt 64 b).toNat : Int) = _
  rw [BitVec.toNat_and, BitVec.ofInt_natCast, BitVec.ofInt_natCast, BitVec.toNat_ofNat, BitVec.toNat_ofNat, Nat.mod_eq_of_lt (by omega), Nat.mod_eq_of_lt (by omega), IntKind.wrap_i64]
  omega
/-- A list in block b with its rows in blocks gs, or none. -/
def LL (lo hi b : Nat) (gs : List (Nat × Nat)) (al : Option Addr) (xss : List (List Int)) (W : World) : Prop := xss = [] ∨ (al = some ⟨b, 0, none⟩ ∧ NewII.Rows W lo hi b gs xss (org xss))
theorem LL.on {lo hi b : Nat} {gs : List (Nat × Nat)} {al : Option Addr} {xss : List (List Int)} {W W' : World} (h : LL lo hi b gs al xss W) (hb : Below W.heap.size W W') : LL lo hi b gs al xss W' := by
  rcases h with h | ⟨h1, h2⟩
  · exact .inl h
  · exact .inr ⟨h1, h2.on hb⟩
theorem LL.lists {lo hi b : Nat} {gs : List (Nat × Nat)} {al : Option Addr} {xss : List (List Int)} {W : World} (h : LL lo hi b gs al xss W) : Lists W lo hi al xss (org xss) := by
  rcases h with h | ⟨h1, h2⟩
  · exact .inl h
  · exact .inr ⟨b, gs, h1, h2⟩
theorem LL.of {lo hi : Nat} {al : Option Addr} {xss : List (List Int)} {W : World} (h : Lists W lo hi al xss (org xss)) : ∃ b gs, LL lo hi b gs al xss W := by
  rcases h with h | ⟨b, gs, h1, h2⟩
  · exact ⟨0, [], .inl h⟩
  · exact ⟨b, gs, .inr ⟨h1, h2⟩⟩
/-- A list just made. -/
def TmpL (xss : List (List Int)) (a : Option Addr) (W : World) : Prop := ∃ lo hi, Lists W lo hi a xss (org xss)
theorem TmpL.drew {xss : List (List Int)} {a : Option Addr} {W : World} (h : TmpL xss a W) : TmpL xss a W.drew := by
  obtain ⟨lo, hi, h⟩ := h
  exact ⟨lo, hi, h.on (Below.refl _ _).drew⟩
/-- What the walk of FnQuads keeps: three boxes and a list. -/
structure Mem2 (w : World) (bs bq bt : Nat) (ms mq mt : Int) (Ts Tq Tt : ByteArray) (lo hi b : Nat) (gs : List (Nat × Nat)) (al : Option Addr) (xss : List (List Int)) (W : World) : Prop where
  below : Below w.heap.size w W
  s : OutC bs ms Ts W
  q : OutC bq mq Tq W
  t : OutC bt mt Tt W
  l : LL lo hi b gs al xss W
theorem Mem2.on {w : World} {bs bq bt : Nat} {ms mq mt : Int} {Ts Tq Tt : ByteArray} {lo hi b : Nat} {gs : List (Nat × Nat)} {al : Option Addr} {xss : List (List Int)} {W W' : World} (h : Mem2 w bs bq bt ms mq mt Ts Tq Tt lo hi b gs al xss W) (hb' : Below W.heap.size W W') : Mem2 w bs bq bt ms mq mt Ts Tq Tt lo hi b gs al xss W' :=
  ⟨h.below.trans (hb'.mono h.below.size), h.s.on hb', h.q.on hb', h.t.on hb', h.l.on hb'⟩
theorem elem_i64 {z : Int} (h : Elem z) : I64 z := by unfold Elem at h; unfold I64; omega
/-- Row k of the list of fours. -/
theorem rows4_row {L : List T4} {k : Nat} {t : T4} (h : L[k]? = some t) : (rows4 L).getD k [] = r4 t := by
  unfold rows4
  rw [List.getD_eq_getElem?_getD, List.getElem?_map, h]; rfl
theorem row_cells {L : List T4} {k : Nat} {t : T4} (h : L[k]? = some t) {lo hi b : Nat} {gs : List (Nat × Nat)} {W : World} (hr : NewII.Rows W lo hi b gs (rows4 L) (org (rows4 L))) {g : Nat × Nat} (hg : gs[k]? = some g) :
    W.cell? ⟨b, k, none⟩ = some (.slice (some ⟨g.1, 0, none⟩) 4 g.2) ∧ W.cell? ⟨g.1, 0, none⟩ = some (.int .i64 t.1) ∧ W.cell? ⟨g.1, 1, none⟩ = some (.int .i64 t.2.1) ∧ W.cell? ⟨g.1, 2, none⟩ = some (.int .i64 t.2.2.1) ∧ W.cell? ⟨g.1, 3, none⟩ = some (.int .i64 t.2.2.2) := by
  have hln : ln (rows4 L) k = 4 := by unfold ln; rw [rows4_row h]; rfl
  have ho := hr.outer k g hg
  obtain ⟨-, -, -, hc⟩ := hr.row k g hg
  rw [hln] at ho hc
  unfold org at hc
  rw [rows4_row h] at hc
  exact ⟨ho, hc.cell 0 (by omega), hc.cell 1 (by omega), hc.cell 2 (by omega), hc.cell 3 (by omega)⟩
theorem quadsL_small {n : Int} {s : List UInt8} {t : T4} (h : t ∈ quadsL n s) : t.1 ≤ 7 ∧ t.2.1 ≤ 7 ∧ t.2.2.1 ≤ 7 ∧ t.2.2.2 ≤ 7 := by
  cases ha : aciB n s
  · rw [quadsL_no ha] at h; exact absurd h (by simp)
  · obtain ⟨h3, h7⟩ := aciB_n ha
    unfold quadsL quads at h
    rw [if_pos ha] at h
    obtain ⟨h1, h2, h4, h5⟩ := fours_mem (show n.toNat ≤ 7 by omega) (List.mem_filter.1 h).1
    omega
set_option maxHeartbeats 12800000 in
set_option maxRecDepth 100000 in
theorem walkFnQuads (v : Value) (n : Nat) (w : World) (hv : Bytes w v n w.heap.size) :
    Calls Try.prog 3 #[v] w fun e w' => e = .returned (.bool true) ∧ Below w.heap.size w w' := by
  have HBIG := Lib.hid (fun W (hW : Below w.heap.size w W) => big_any v n W (bytes_up hv hW))
  have HV := Lib.hid (fun W (hW : Below w.heap.size w W) => bytes_up hv hW)
  have B0 := Lib.hid (Below.refl w.heap.size w)
  clear hv
  by_cases hbig : (n : Int) > 1048576
  · go_enter Try.func3, Try.ntmps3
    go_wp2_with fail
    refine (HBIG.out _ B0.out).mono ?_
    rintro e w1 ⟨rfl, rfl⟩
    go_wp2
    go_ret
    exact ⟨rfl, B0.out⟩
  · have hn : n ≤ 9223372036854700000 := by omega
    go_enter Try.func3, Try.ntmps3
    go_wp2_with fail
    refine (HBIG.out _ B0.out).mono ?_
    rintro e w1 ⟨rfl, rfl⟩
    -- s
    go_wp2_with fail
    refine (drawSplit_any v n hn _ (HV.out _ B0.out)).mono ?_
    rintro e w2 ⟨ms, Ts, z0, z1, z2, z3, rfl, hms, hTs, hE, hb2⟩
    have B2 := Lib.hid (hb2.alloc hb2.size (.cells #[.int .i64 ms, .string Ts] 25))
    have S2 := Lib.hid (outC_made w2 ms Ts 25)
    obtain ⟨E0, E1, E2, E3⟩ := hE
    have I0 := Lib.hid (elem_i64 E0); have I1 := Lib.hid (elem_i64 E1); have I2 := Lib.hid (elem_i64 E2); have I3 := Lib.hid (elem_i64 E3)
    clear hb2 E0 E1 E2 E3
    obtain ⟨lft, rgt, hlr⟩ : ∃ x y, splitZ ms Ts.data.toList z0 z1 z2 z3 = (x, y) := ⟨_, _, rfl⟩
    have HLR := Lib.hid hlr
    have HSI := Lib.hid (fun W => implSplit ms Ts z0 z1 z2 z3 I0.out I1.out I2.out I3.out (by omega) W)
    have HSS := Lib.hid (fun W => specSplit ms Ts z0 z1 z2 z3 (by omega) W)
    rw [hlr] at HSI HSS
    clear hlr
    obtain ⟨⟨y0, y1⟩, -⟩ := S2.out
    go_wp2_with fail
    refine (HSI.out _).mono ?_
    rintro e w3 ⟨rfl, hb3⟩
    have B3 := Lib.hid (B2.out.trans (hb3.mono B2.out.size))
    have S3 := Lib.hid (S2.out.on hb3)
    clear hb3 y0 y1 B2 S2 HSI
    obtain ⟨⟨y0, y1⟩, -⟩ := S3.out
    go_wp2_with fail
    refine (HSS.out _).mono ?_
    rintro e w4 ⟨rfl, hb4⟩
    have B4 := Lib.hid (B3.out.trans (hb4.mono B3.out.size))
    have S4 := Lib.hid (S3.out.on hb4)
    clear hb4 y0 y1 B3 S3 HSS
    go_wp2_with fail
    refine (drawQuads_any v n hn _ (HV.out _ B4.out)).mono ?_
    rintro e w5 ⟨mq, Tq, rfl, hmq, hTq, hb5⟩
    have B5 := Lib.hid ((B4.out.trans (hb5.mono B4.out.size)).alloc (Nat.le_trans B4.out.size hb5.size) (.cells #[.int .i64 mq, .string Tq] 25))
    have S5 := Lib.hid (outC_alloc (S4.out.on hb5) (.cells #[.int .i64 mq, .string Tq] 25))
    have Q5 := Lib.hid (outC_made w5 mq Tq 25)
    clear hb5 B4 S4
    obtain ⟨⟨y0, y1⟩, -⟩ := Q5.out
    go_wp2_with fail
    refine (implQuads mq Tq (by omega) _).mono ?_
    rintro e w6 ⟨⟨al, cl, rfl, hls⟩, hb6⟩
    obtain ⟨bl, gs, hll⟩ := LL.of hls
    have B6 := Lib.hid (B5.out.trans (hb6.mono B5.out.size))
    have S6 := Lib.hid (S5.out.on hb6)
    have Q6 := Lib.hid (Q5.out.on hb6)
    have L6 := Lib.hid hll
    clear hb6 y0 y1 B5 S5 Q5 hls hll
    rw [rows4_length]
    go_wp2_with fail
    refine (drawInside_any v n hn _ (HV.out _ B6.out)).mono ?_
    rintro e w7 ⟨mt, Tt, p, i, j, k, rfl, hmt, hTt, hE, hb7⟩
    obtain ⟨E0, E1, E2, E3⟩ := hE
    have P0 := Lib.hid (elem_i64 E0); have P1 := Lib.hid (elem_i64 E1); have P2 := Lib.hid (elem_i64 E2); have P3 := Lib.hid (elem_i64 E3)
    clear E0 E1 E2 E3
    have B7 := Lib.hid ((B6.out.trans (hb7.mono B6.out.size)).alloc (Nat.le_trans B6.out.size hb7.size) (.cells #[.int .i64 mt, .string Tt] 25))
    have S7 := Lib.hid (outC_alloc (S6.out.on hb7) (.cells #[.int .i64 mt, .string Tt] 25))
    have Q7 := Lib.hid (outC_alloc (Q6.out.on hb7) (.cells #[.int .i64 mt, .string Tt] 25))
    have L7 := Lib.hid ((L6.out.on hb7).on ((Below.refl _ _).alloc (Nat.le_refl _) (.cells #[.int .i64 mt, .string Tt] 25)))
    have T7 := Lib.hid (outC_made w7 mt Tt 25)
    clear hb7 B6 S6 Q6 L6
    go_upto_region 9 with fail
    generalize hw8 : w7.alloc (.cells #[.int .i64 mt, .string Tt] 25) = w8 at B7 S7 Q7 T7 L7 ⊢
    clear hw8
    generalize hbs : w2.heap.size = bs at S7 ⊢
    clear hbs
    generalize hbq : w5.heap.size = bq at Q7 ⊢
    clear hbq
    generalize hbt : w7.heap.size = bt at T7 ⊢
    clear hbt
    -- the memory, packed
    have HQL : Hid (quadsL mq Tq.data.toList = quadsL mq Tq.data.toList) := Lib.hid rfl
    obtain ⟨lo0, hi0, Lx⟩ : ∃ lo hi, LL lo hi bl gs al (rows4 (quadsL mq Tq.data.toList)) w8 := ⟨_, _, L7.out⟩
    obtain ⟨PK, hPK⟩ : ∃ P : World → Prop, P = Mem2 w1 bs bq bt ms mq mt Ts Tq Tt lo0 hi0 bl gs al (rows4 (quadsL mq Tq.data.toList)) := ⟨_, rfl⟩
    have K8 : Hid (PK w8) := Lib.hid (by rw [hPK]; exact ⟨B7.out, S7.out, Q7.out, T7.out, Lx⟩)
    have HDR : Hid (∀ W, PK W → PK W.drew) := Lib.hid (by rw [hPK]; exact fun W h => h.on (Below.refl _ _).drew)
    have HON : Hid (∀ W W', PK W → Below W.heap.size W W' → PK W') := Lib.hid (by rw [hPK]; exact fun W W' h hb => h.on hb)
    have HBE : Hid (∀ W, PK W → Below w1.heap.size w1 W) := Lib.hid (by rw [hPK]; exact fun W h => h.below)
    have HLI : Hid (∀ W, PK W → TmpL (rows4 (quadsL mq Tq.data.toList)) al W) := Lib.hid (by rw [hPK]; exact fun W h => ⟨_, _, h.l.lists⟩)
    have HLR2 : Hid (∃ lo hi, ∀ W, PK W → LL lo hi bl gs al (rows4 (quadsL mq Tq.data.toList)) W) := Lib.hid (by rw [hPK]; exact ⟨_, _, fun W h => h.l⟩)
    have HCsqt : Hid (∀ W, PK W → W.cell? ⟨bs, 0, none⟩ = some (.int .i64 ms) ∧ W.cell? ⟨bs, 1, none⟩ = some (.string Ts) ∧ W.cell? ⟨bq, 0, none⟩ = some (.int .i64 mq) ∧ W.cell? ⟨bq, 1, none⟩ = some (.string Tq) ∧ W.cell? ⟨bt, 0, none⟩ = some (.int .i64 mt) ∧ W.cell? ⟨bt, 1, none⟩ = some (.string Tt) ∧ PK W) := Lib.hid (fun W hk => by have h := hk; rw [hPK] at h; exact ⟨h.s.1.1, h.s.1.2, h.q.1.1, h.q.1.2, h.t.1.1, h.t.1.2, hk⟩)
    have HCs : Hid (∀ W, PK W → W.cell? ⟨bs, 0, none⟩ = some (.int .i64 ms) ∧ W.cell? ⟨bs, 1, none⟩ = some (.string Ts) ∧ PK W) := Lib.hid (fun W hk => by have h := hk; rw [hPK] at h; exact ⟨h.s.1.1, h.s.1.2, hk⟩)
    have HCq : Hid (∀ W, PK W → W.cell? ⟨bq, 0, none⟩ = some (.int .i64 mq) ∧ W.cell? ⟨bq, 1, none⟩ = some (.string Tq) ∧ PK W) := Lib.hid (fun W hk => by have h := hk; rw [hPK] at h; exact ⟨h.q.1.1, h.q.1.2, hk⟩)
    have HCt : Hid (∀ W, PK W → W.cell? ⟨bt, 0, none⟩ = some (.int .i64 mt) ∧ W.cell? ⟨bt, 1, none⟩ = some (.string Tt) ∧ PK W) := Lib.hid (fun W hk => by have h := hk; rw [hPK] at h; exact ⟨h.t.1.1, h.t.1.2, hk⟩)
    clear hPK B7 S7 Q7 T7 L7 Lx HQL
    have hl35 := quadsL_len mq Tq.data.toList
    have HPL := Lib.hid (pre_quads (quadsL mq Tq.data.toList) hl35 (rows4 (quadsL mq Tq.data.toList)).length (Nat.le_refl _))
    have HII : Hid (∀ W, (W.cell? ⟨bs, 0, none⟩ = some (.int .i64 ms) ∧ W.cell? ⟨bs, 1, none⟩ = some (.string Ts) ∧ W.cell? ⟨bq, 0, none⟩ = some (.int .i64 mq) ∧ W.cell? ⟨bq, 1, none⟩ = some (.string Tq) ∧ W.cell? ⟨bt, 0, none⟩ = some (.int .i64 mt) ∧ W.cell? ⟨bt, 1, none⟩ = some (.string Tt) ∧ PK W) → Calls Try.prog 12 #[sg ms Ts, .int .i64 z0, .int .i64 z1, .int .i64 z2, .int .i64 z3] W fun e w' => e = .returned (.int .i64 (inn4 (cir (sgnF (ordF ms Ts.data.toList)) z0 z1 z2 z3) z0 z1 z2 z3)) ∧ w'.cell? ⟨bs, 0, none⟩ = some (.int .i64 ms) ∧ w'.cell? ⟨bs, 1, none⟩ = some (.string Ts) ∧ w'.cell? ⟨bq, 0, none⟩ = some (.int .i64 mq) ∧ w'.cell? ⟨bq, 1, none⟩ = some (.string Tq) ∧ w'.cell? ⟨bt, 0, none⟩ = some (.int .i64 mt) ∧ w'.cell? ⟨bt, 1, none⟩ = some (.string Tt) ∧ PK w') := Lib.hid (fun W hW => by
      refine (implInner ms Ts z0 z1 z2 z3 I0.out I1.out I2.out I3.out (by omega) W).mono fun e w' ⟨he, hb⟩ => ⟨he, HCsqt.out _ (HON.out _ _ (hW.2.2.2.2.2.2) hb)⟩)
    have HIS : Hid (∀ W, (W.cell? ⟨bs, 0, none⟩ = some (.int .i64 ms) ∧ W.cell? ⟨bs, 1, none⟩ = some (.string Ts) ∧ W.cell? ⟨bq, 0, none⟩ = some (.int .i64 mq) ∧ W.cell? ⟨bq, 1, none⟩ = some (.string Tq) ∧ W.cell? ⟨bt, 0, none⟩ = some (.int .i64 mt) ∧ W.cell? ⟨bt, 1, none⟩ = some (.string Tt) ∧ PK W) → Calls Try.prog 13 #[sg ms Ts, .int .i64 z0, .int .i64 z1, .int .i64 z2, .int .i64 z3] W fun e w' => e = .returned (.int .i64 (inn4 (cir (sgnF (ordF ms Ts.data.toList)) z0 z1 z2 z3) z0 z1 z2 z3)) ∧ w'.cell? ⟨bs, 0, none⟩ = some (.int .i64 ms) ∧ w'.cell? ⟨bs, 1, none⟩ = some (.string Ts) ∧ w'.cell? ⟨bq, 0, none⟩ = some (.int .i64 mq) ∧ w'.cell? ⟨bq, 1, none⟩ = some (.string Tq) ∧ w'.cell? ⟨bt, 0, none⟩ = some (.int .i64 mt) ∧ w'.cell? ⟨bt, 1, none⟩ = some (.string Tt) ∧ PK w') := Lib.hid (fun W hW => by
      refine (specInner ms Ts z0 z1 z2 z3 (by omega) W).mono fun e w' ⟨he, hb⟩ => ⟨he, HCsqt.out _ (HON.out _ _ (hW.2.2.2.2.2.2) hb)⟩)
    have HCI : Hid (∀ W, (W.cell? ⟨bs, 0, none⟩ = some (.int .i64 ms) ∧ W.cell? ⟨bs, 1, none⟩ = some (.string Ts) ∧ W.cell? ⟨bq, 0, none⟩ = some (.int .i64 mq) ∧ W.cell? ⟨bq, 1, none⟩ = some (.string Tq) ∧ W.cell? ⟨bt, 0, none⟩ = some (.int .i64 mt) ∧ W.cell? ⟨bt, 1, none⟩ = some (.string Tt) ∧ PK W) → Calls Try.prog 16 #[sg mq Tq] W fun e w' => e = .returned (.int .i64 (quadsN mq Tq.data.toList)) ∧ w'.cell? ⟨bs, 0, none⟩ = some (.int .i64 ms) ∧ w'.cell? ⟨bs, 1, none⟩ = some (.string Ts) ∧ w'.cell? ⟨bq, 0, none⟩ = some (.int .i64 mq) ∧ w'.cell? ⟨bq, 1, none⟩ = some (.string Tq) ∧ w'.cell? ⟨bt, 0, none⟩ = some (.int .i64 mt) ∧ w'.cell? ⟨bt, 1, none⟩ = some (.string Tt) ∧ PK w') := Lib.hid (fun W hW => by
      refine (implCountQuads mq Tq (by omega) W).mono fun e w' ⟨he, hb⟩ => ⟨he, HCsqt.out _ (HON.out _ _ (hW.2.2.2.2.2.2) hb)⟩)
    have HCS : Hid (∀ W, (W.cell? ⟨bs, 0, none⟩ = some (.int .i64 ms) ∧ W.cell? ⟨bs, 1, none⟩ = some (.string Ts) ∧ W.cell? ⟨bq, 0, none⟩ = some (.int .i64 mq) ∧ W.cell? ⟨bq, 1, none⟩ = some (.string Tq) ∧ W.cell? ⟨bt, 0, none⟩ = some (.int .i64 mt) ∧ W.cell? ⟨bt, 1, none⟩ = some (.string Tt) ∧ PK W) → Calls Try.prog 17 #[sg mq Tq] W fun e w' => e = .returned (.int .i64 (quadsN mq Tq.data.toList)) ∧ w'.cell? ⟨bs, 0, none⟩ = some (.int .i64 ms) ∧ w'.cell? ⟨bs, 1, none⟩ = some (.string Ts) ∧ w'.cell? ⟨bq, 0, none⟩ = some (.int .i64 mq) ∧ w'.cell? ⟨bq, 1, none⟩ = some (.string Tq) ∧ w'.cell? ⟨bt, 0, none⟩ = some (.int .i64 mt) ∧ w'.cell? ⟨bt, 1, none⟩ = some (.string Tt) ∧ PK w') := Lib.hid (fun W hW => by
      refine (specCountQuads mq Tq (by omega) W).mono fun e w' ⟨he, hb⟩ => ⟨he, HCsqt.out _ (HON.out _ _ (hW.2.2.2.2.2.2) hb)⟩)
    have HTI : Hid (∀ W, (W.cell? ⟨bs, 0, none⟩ = some (.int .i64 ms) ∧ W.cell? ⟨bs, 1, none⟩ = some (.string Ts) ∧ W.cell? ⟨bq, 0, none⟩ = some (.int .i64 mq) ∧ W.cell? ⟨bq, 1, none⟩ = some (.string Tq) ∧ W.cell? ⟨bt, 0, none⟩ = some (.int .i64 mt) ∧ W.cell? ⟨bt, 1, none⟩ = some (.string Tt) ∧ PK W) → Calls Try.prog 18 #[sg mt Tt, .int .i64 p, .int .i64 i, .int .i64 j, .int .i64 k] W fun e w' => e = .returned (.bool (isIn (cir (sgnF (ordF mt Tt.data.toList)) p i j k))) ∧ w'.cell? ⟨bs, 0, none⟩ = some (.int .i64 ms) ∧ w'.cell? ⟨bs, 1, none⟩ = some (.string Ts) ∧ w'.cell? ⟨bq, 0, none⟩ = some (.int .i64 mq) ∧ w'.cell? ⟨bq, 1, none⟩ = some (.string Tq) ∧ w'.cell? ⟨bt, 0, none⟩ = some (.int .i64 mt) ∧ w'.cell? ⟨bt, 1, none⟩ = some (.string Tt) ∧ PK w') := Lib.hid (fun W hW => by
      refine (implIsInside mt Tt p i j k P0.out P1.out P2.out P3.out (by omega) W).mono fun e w' ⟨he, hb⟩ => ⟨he, HCsqt.out _ (HON.out _ _ (hW.2.2.2.2.2.2) hb)⟩)
    have HTS : Hid (∀ W, (W.cell? ⟨bs, 0, none⟩ = some (.int .i64 ms) ∧ W.cell? ⟨bs, 1, none⟩ = some (.string Ts) ∧ W.cell? ⟨bq, 0, none⟩ = some (.int .i64 mq) ∧ W.cell? ⟨bq, 1, none⟩ = some (.string Tq) ∧ W.cell? ⟨bt, 0, none⟩ = some (.int .i64 mt) ∧ W.cell? ⟨bt, 1, none⟩ = some (.string Tt) ∧ PK W) → Calls Try.prog 19 #[sg mt Tt, .int .i64 p, .int .i64 i, .int .i64 j, .int .i64 k] W fun e w' => e = .returned (.bool (isIn (cir (sgnF (ordF mt Tt.data.toList)) p i j k))) ∧ w'.cell? ⟨bs, 0, none⟩ = some (.int .i64 ms) ∧ w'.cell? ⟨bs, 1, none⟩ = some (.string Ts) ∧ w'.cell? ⟨bq, 0, none⟩ = some (.int .i64 mq) ∧ w'.cell? ⟨bq, 1, none⟩ = some (.string Tq) ∧ w'.cell? ⟨bt, 0, none⟩ = some (.int .i64 mt) ∧ w'.cell? ⟨bt, 1, none⟩ = some (.string Tt) ∧ PK w') := Lib.hid (fun W hW => by
      refine (specIsInside mt Tt p i j k (by omega) W).mono fun e w' ⟨he, hb⟩ => ⟨he, HCsqt.out _ (HON.out _ _ (hW.2.2.2.2.2.2) hb)⟩)
    have HNI : Hid (∀ W, (W.cell? ⟨bs, 0, none⟩ = some (.int .i64 ms) ∧ W.cell? ⟨bs, 1, none⟩ = some (.string Ts) ∧ W.cell? ⟨bq, 0, none⟩ = some (.int .i64 mq) ∧ W.cell? ⟨bq, 1, none⟩ = some (.string Tq) ∧ W.cell? ⟨bt, 0, none⟩ = some (.int .i64 mt) ∧ W.cell? ⟨bt, 1, none⟩ = some (.string Tt) ∧ PK W) → Calls Try.prog 20 #[sg ms Ts, .int .i64 z0, .int .i64 z1, .int .i64 z2] W fun e w' => e = .returned (.int .i64 (insN ms Ts.data.toList z0 z1 z2)) ∧ w'.cell? ⟨bs, 0, none⟩ = some (.int .i64 ms) ∧ w'.cell? ⟨bs, 1, none⟩ = some (.string Ts) ∧ w'.cell? ⟨bq, 0, none⟩ = some (.int .i64 mq) ∧ w'.cell? ⟨bq, 1, none⟩ = some (.string Tq) ∧ w'.cell? ⟨bt, 0, none⟩ = some (.int .i64 mt) ∧ w'.cell? ⟨bt, 1, none⟩ = some (.string Tt) ∧ PK w') := Lib.hid (fun W hW => by
      refine (implCountInside ms Ts z0 z1 z2 I0.out I1.out I2.out (by omega) W).mono fun e w' ⟨he, hb⟩ => ⟨he, HCsqt.out _ (HON.out _ _ (hW.2.2.2.2.2.2) hb)⟩)
    have HNS : Hid (∀ W, (W.cell? ⟨bs, 0, none⟩ = some (.int .i64 ms) ∧ W.cell? ⟨bs, 1, none⟩ = some (.string Ts) ∧ W.cell? ⟨bq, 0, none⟩ = some (.int .i64 mq) ∧ W.cell? ⟨bq, 1, none⟩ = some (.string Tq) ∧ W.cell? ⟨bt, 0, none⟩ = some (.int .i64 mt) ∧ W.cell? ⟨bt, 1, none⟩ = some (.string Tt) ∧ PK W) → Calls Try.prog 21 #[sg ms Ts, .int .i64 z0, .int .i64 z1, .int .i64 z2] W fun e w' => e = .returned (.int .i64 (insN ms Ts.data.toList z0 z1 z2)) ∧ w'.cell? ⟨bs, 0, none⟩ = some (.int .i64 ms) ∧ w'.cell? ⟨bs, 1, none⟩ = some (.string Ts) ∧ w'.cell? ⟨bq, 0, none⟩ = some (.int .i64 mq) ∧ w'.cell? ⟨bq, 1, none⟩ = some (.string Tq) ∧ w'.cell? ⟨bt, 0, none⟩ = some (.int .i64 mt) ∧ w'.cell? ⟨bt, 1, none⟩ = some (.string Tt) ∧ PK w') := Lib.hid (fun W hW => by
      refine (specCountInside ms Ts z0 z1 z2 (by omega) W).mono fun e w' ⟨he, hb⟩ => ⟨he, HCsqt.out _ (HON.out _ _ (hW.2.2.2.2.2.2) hb)⟩)
    have HEI : Hid (∀ W, (W.cell? ⟨bs, 0, none⟩ = some (.int .i64 ms) ∧ W.cell? ⟨bs, 1, none⟩ = some (.string Ts) ∧ W.cell? ⟨bq, 0, none⟩ = some (.int .i64 mq) ∧ W.cell? ⟨bq, 1, none⟩ = some (.string Tq) ∧ W.cell? ⟨bt, 0, none⟩ = some (.int .i64 mt) ∧ W.cell? ⟨bt, 1, none⟩ = some (.string Tt) ∧ PK W) → Calls Try.prog 22 #[sg mq Tq] W fun e w' => e = .returned (.int .i64 (emptyN mq Tq.data.toList)) ∧ w'.cell? ⟨bs, 0, none⟩ = some (.int .i64 ms) ∧ w'.cell? ⟨bs, 1, none⟩ = some (.string Ts) ∧ w'.cell? ⟨bq, 0, none⟩ = some (.int .i64 mq) ∧ w'.cell? ⟨bq, 1, none⟩ = some (.string Tq) ∧ w'.cell? ⟨bt, 0, none⟩ = some (.int .i64 mt) ∧ w'.cell? ⟨bt, 1, none⟩ = some (.string Tt) ∧ PK w') := Lib.hid (fun W hW => by
      refine (implEmpty mq Tq (by omega) W).mono fun e w' ⟨he, hb⟩ => ⟨he, HCsqt.out _ (HON.out _ _ (hW.2.2.2.2.2.2) hb)⟩)
    have HES : Hid (∀ W, (W.cell? ⟨bs, 0, none⟩ = some (.int .i64 ms) ∧ W.cell? ⟨bs, 1, none⟩ = some (.string Ts) ∧ W.cell? ⟨bq, 0, none⟩ = some (.int .i64 mq) ∧ W.cell? ⟨bq, 1, none⟩ = some (.string Tq) ∧ W.cell? ⟨bt, 0, none⟩ = some (.int .i64 mt) ∧ W.cell? ⟨bt, 1, none⟩ = some (.string Tt) ∧ PK W) → Calls Try.prog 23 #[sg mq Tq] W fun e w' => e = .returned (.int .i64 (emptyN mq Tq.data.toList)) ∧ w'.cell? ⟨bs, 0, none⟩ = some (.int .i64 ms) ∧ w'.cell? ⟨bs, 1, none⟩ = some (.string Ts) ∧ w'.cell? ⟨bq, 0, none⟩ = some (.int .i64 mq) ∧ w'.cell? ⟨bq, 1, none⟩ = some (.string Tq) ∧ w'.cell? ⟨bt, 0, none⟩ = some (.int .i64 mt) ∧ w'.cell? ⟨bt, 1, none⟩ = some (.string Tt) ∧ PK w') := Lib.hid (fun W hW => by
      refine (specEmpty mq Tq (by omega) W).mono fun e w' ⟨he, hb⟩ => ⟨he, HCsqt.out _ (HON.out _ _ (hW.2.2.2.2.2.2) hb)⟩)
    have HQS : Hid (∀ W, (W.cell? ⟨bs, 0, none⟩ = some (.int .i64 ms) ∧ W.cell? ⟨bs, 1, none⟩ = some (.string Ts) ∧ W.cell? ⟨bq, 0, none⟩ = some (.int .i64 mq) ∧ W.cell? ⟨bq, 1, none⟩ = some (.string Tq) ∧ W.cell? ⟨bt, 0, none⟩ = some (.int .i64 mt) ∧ W.cell? ⟨bt, 1, none⟩ = some (.string Tt) ∧ PK W) → Calls Try.prog 15 #[sg mq Tq] W fun e w' => (∃ a' c', e = .returned (.slice a' (quadsL mq Tq.data.toList).length c') ∧ TmpL (rows4 (quadsL mq Tq.data.toList)) a' w') ∧ w'.cell? ⟨bs, 0, none⟩ = some (.int .i64 ms) ∧ w'.cell? ⟨bs, 1, none⟩ = some (.string Ts) ∧ w'.cell? ⟨bq, 0, none⟩ = some (.int .i64 mq) ∧ w'.cell? ⟨bq, 1, none⟩ = some (.string Tq) ∧ w'.cell? ⟨bt, 0, none⟩ = some (.int .i64 mt) ∧ w'.cell? ⟨bt, 1, none⟩ = some (.string Tt) ∧ PK w') := Lib.hid (fun W hW => by
      refine (specQuads mq Tq (by omega) W).mono fun e w' ⟨⟨a', c', he, hn'⟩, hb⟩ => ⟨⟨a', c', by rw [he, rows4_length], _, _, hn'⟩, HCsqt.out _ (HON.out _ _ (hW.2.2.2.2.2.2) hb)⟩)
    have HSL : Hid (∀ a' c' W, (W.cell? ⟨bs, 0, none⟩ = some (.int .i64 ms) ∧ W.cell? ⟨bs, 1, none⟩ = some (.string Ts) ∧ W.cell? ⟨bq, 0, none⟩ = some (.int .i64 mq) ∧ W.cell? ⟨bq, 1, none⟩ = some (.string Tq) ∧ W.cell? ⟨bt, 0, none⟩ = some (.int .i64 mt) ∧ W.cell? ⟨bt, 1, none⟩ = some (.string Tt) ∧ PK W) → TmpL (rows4 (quadsL mq Tq.data.toList)) a' W → Calls Try.prog 14 #[.slice al (quadsL mq Tq.data.toList).length cl, .slice a' (quadsL mq Tq.data.toList).length c'] W fun e w' => e = .returned (.bool true) ∧ w'.cell? ⟨bs, 0, none⟩ = some (.int .i64 ms) ∧ w'.cell? ⟨bs, 1, none⟩ = some (.string Ts) ∧ w'.cell? ⟨bq, 0, none⟩ = some (.int .i64 mq) ∧ w'.cell? ⟨bq, 1, none⟩ = some (.string Tq) ∧ w'.cell? ⟨bt, 0, none⟩ = some (.int .i64 mt) ∧ w'.cell? ⟨bt, 1, none⟩ = some (.string Tt) ∧ PK w') := Lib.hid (fun a' c' W hW ⟨lo, hi, h2⟩ => by
      obtain ⟨lo1, hi1, h1⟩ := HLI.out _ (hW.2.2.2.2.2.2)
      rw [← rows4_length (quadsL mq Tq.data.toList)]
      refine (same_lists lo1 hi1 lo hi al a' cl c' (rows4 (quadsL mq Tq.data.toList)) (by have h0 := HPL.out; rw [rows4_length] at h0 ⊢; omega) (by rw [rows4_length]; omega) W h1 h2).mono fun e w' ⟨he, hb⟩ => ⟨he, HCsqt.out _ (HON.out _ _ (hW.2.2.2.2.2.2) hb)⟩)
    have HI1 : Hid (∀ W, PK W → Calls Try.prog 12 #[sg ms Ts, .int .i64 z0, .int .i64 z1, .int .i64 z2, .int .i64 z3] W fun e w' => e = .returned (.int .i64 (inn4 (cir (sgnF (ordF ms Ts.data.toList)) z0 z1 z2 z3) z0 z1 z2 z3)) ∧ PK w') := Lib.hid (fun W hW => (implInner ms Ts z0 z1 z2 z3 I0.out I1.out I2.out I3.out (by omega) W).mono fun e w' ⟨he, hb⟩ => ⟨he, HON.out _ _ hW hb⟩)
    have HSW : Hid (∀ W, PK W → Calls Try.prog 7 #[sg ms Ts, .int .i64 z1, .int .i64 z0, .int .i64 z2, .int .i64 z3] W fun e w' => e = .returned (.tuple #[.int .i64 (splitZ ms Ts.data.toList z1 z0 z2 z3).1, .int .i64 (splitZ ms Ts.data.toList z1 z0 z2 z3).2]) ∧ PK w') := Lib.hid (fun W hW => (implSplit ms Ts z1 z0 z2 z3 I1.out I0.out I2.out I3.out (by omega) W).mono fun e w' ⟨he, hb⟩ => ⟨he, HON.out _ _ hW hb⟩)
    have HCQ : Hid (∀ W, PK W → Calls Try.prog 16 #[sg mq Tq] W fun e w' => e = .returned (.int .i64 (quadsN mq Tq.data.toList)) ∧ PK w') := Lib.hid (fun W hW => (implCountQuads mq Tq (by omega) W).mono fun e w' ⟨he, hb⟩ => ⟨he, HON.out _ _ hW hb⟩)
    have HAC : Hid (∀ W, PK W → Calls Try.prog 25 #[sg mq Tq] W fun e w' => e = .returned (.bool (aciB mq Tq.data.toList)) ∧ PK w') := Lib.hid (fun W hW => (specAci mq Tq (by omega) W).mono fun e w' ⟨he, hb⟩ => ⟨he, HON.out _ _ hW hb⟩)
    have HIN1 : Hid (∀ W, PK W → Calls Try.prog 18 #[sg mt Tt, .int .i64 p, .int .i64 i, .int .i64 j, .int .i64 k] W fun e w' => e = .returned (.bool (isIn (cir (sgnF (ordF mt Tt.data.toList)) p i j k))) ∧ PK w') := Lib.hid (fun W hW => (implIsInside mt Tt p i j k P0.out P1.out P2.out P3.out (by omega) W).mono fun e w' ⟨he, hb⟩ => ⟨he, HON.out _ _ hW hb⟩)
    have HIN2 : Hid (∀ W, PK W → Calls Try.prog 18 #[sg mt Tt, .int .i64 i, .int .i64 p, .int .i64 j, .int .i64 k] W fun e w' => e = .returned (.bool (isIn (cir (sgnF (ordF mt Tt.data.toList)) i p j k))) ∧ PK w') := Lib.hid (fun W hW => (implIsInside mt Tt i p j k P1.out P0.out P2.out P3.out (by omega) W).mono fun e w' ⟨he, hb⟩ => ⟨he, HON.out _ _ hW hb⟩)
    have HIN3 : Hid (∀ W, PK W → Calls Try.prog 20 #[sg mt Tt, .int .i64 i, .int .i64 j, .int .i64 k] W fun e w' => e = .returned (.int .i64 (insN mt Tt.data.toList i j k)) ∧ PK w') := Lib.hid (fun W hW => (implCountInside mt Tt i j k P1.out P2.out P3.out (by omega) W).mono fun e w' ⟨he, hb⟩ => ⟨he, HON.out _ _ hW hb⟩)
    have HSF : Hid (0 < lft → ∃ l m : Nat, lft = (l : Int) ∧ rgt = (m : Int) ∧ l < 128 ∧ m < 128 ∧ 0 < l ∧ l &&& m = 0 ∧ sz l + sz m = 4 ∧ 1 ≤ sz l ∧ sz l ≤ 3 ∧ decide ((inn4 (cir (sgnF (ordF ms Ts.data.toList)) z0 z1 z2 z3) z0 z1 z2 z3) < 0) = decide (sz l = 2) ∧ (splitZ ms Ts.data.toList z1 z0 z2 z3 = ((l : Int), (m : Int)) ∨ splitZ ms Ts.data.toList z1 z0 z2 z3 = ((m : Int), (l : Int)))) := Lib.hid (fun h => by
      obtain ⟨l, m, h0, h1, h2, h3, h4, h5, h6, h7, h8, h9⟩ := split_facts (n := ms) (s := Ts.data.toList) (a := z0) (b := z1) (c := z2) (d := z3) (by rw [HLR.out]; exact h)
      rw [HLR.out] at h0
      obtain ⟨e1, e2⟩ := Prod.mk.inj h0
      exact ⟨l, m, e1, e2, h1, h2, h3, h4, h5, h6, h7, h8, h9⟩)
    have HQF : Hid (∀ t, t ∈ quadsL mq Tq.data.toList → inn4 (cir (sgnF (ordF mq Tq.data.toList)) t.1 t.2.1 t.2.2.1 t.2.2.2) t.1 t.2.1 t.2.2.1 t.2.2.2 = -1) := Lib.hid (fun t h => quads_inner h)
    have HQ5 : Hid (aciB mq Tq.data.toList = true → (5 : Int) ≤ mq → quadsL mq Tq.data.toList ≠ []) := Lib.hid (fun h h5 => quads_five h h5)
    have HQN : Hid (quadsN mq Tq.data.toList = if aciB mq Tq.data.toList = true then (((quadsL mq Tq.data.toList).length : Nat) : Int) else -1) := Lib.hid (by unfold quadsN; rfl)
    have HIF : Hid ((isIn (cir (sgnF (ordF mt Tt.data.toList)) p i j k)) = true → isIn (cir (sgnF (ordF mt Tt.data.toList)) i p j k) = false ∧ 1 ≤ insN mt Tt.data.toList i j k) := Lib.hid (fun h => in_facts h)
    have HIQ : Hid (∀ (t : T4), t.1 ≤ 7 ∧ t.2.1 ≤ 7 ∧ t.2.2.1 ≤ 7 ∧ t.2.2.2 ≤ 7 → ∀ W, Calls Try.prog 12 #[sg mq Tq, .int .i64 t.1, .int .i64 t.2.1, .int .i64 t.2.2.1, .int .i64 t.2.2.2] W fun e w' => e = .returned (.int .i64 (inn4 (cir (sgnF (ordF mq Tq.data.toList)) t.1 t.2.1 t.2.2.1 t.2.2.2) t.1 t.2.1 t.2.2.1 t.2.2.2)) ∧ Below W.heap.size W w') := Lib.hid (fun t ht W => implInner mq Tq t.1 t.2.1 t.2.2.1 t.2.2.2 (by unfold I64; omega) (by unfold I64; omega) (by unfold I64; omega) (by unfold I64; omega) (by omega) W)
    have HFM : Hid (∀ t, t ∈ quadsL mq Tq.data.toList → t.1 ≤ 7 ∧ t.2.1 ≤ 7 ∧ t.2.2.1 ≤ 7 ∧ t.2.2.2 ≤ 7) := Lib.hid (fun t h => quadsL_small h)
    clear HLR I0 I1 I2 I3 P0 P1 P2 P3 HLI HPL
    generalize hQ : quadsL mq Tq.data.toList = Q at HLR2 HQS HSL HQF HQ5 HQN HFM hl35 ⊢
    clear hQ
    generalize hiv : (inn4 (cir (sgnF (ordF ms Ts.data.toList)) z0 z1 z2 z3) z0 z1 z2 z3) = iv at HII HIS HI1 HSF
    clear hiv
    generalize hnq : (quadsN mq Tq.data.toList) = nq at HCI HCS HCQ HQN
    clear hnq
    generalize hib : (isIn (cir (sgnF (ordF mt Tt.data.toList)) p i j k)) = ib at HTI HTS HIN1 HIF
    clear hib
    generalize hcv : (insN ms Ts.data.toList z0 z1 z2) = cv at HNI HNS
    clear hcv
    generalize hev : (emptyN mq Tq.data.toList) = ev at HEI HES
    clear hev
    have g1 : (iv != iv) = false := by simp
    have g2 : (nq != nq) = false := by simp
    have g3 : (ib != ib) = false := by simp
    have g4 : (cv != cv) = false := by simp
    have g5 : (ev != ev) = false := by simp
    have g6 : (lft != lft) = false := by simp
    have g7 : (rgt != rgt) = false := by simp
    go_cut [133] (fun cv wx => cv = .bool false ∧ Hid (PK wx))
    case first =>
      as_aux_lemma =>
      refine wp_region_held (S := fun W => W.cell? ⟨bs, 0, none⟩ = some (.int .i64 ms) ∧ W.cell? ⟨bs, 1, none⟩ = some (.string Ts) ∧ W.cell? ⟨bq, 0, none⟩ = some (.int .i64 mq) ∧ W.cell? ⟨bq, 1, none⟩ = some (.string Tq) ∧ W.cell? ⟨bt, 0, none⟩ = some (.int .i64 mt) ∧ W.cell? ⟨bt, 1, none⟩ = some (.string Tt) ∧ PK W) rfl ?_
      have hHeld := (HCsqt.out _ (HDR.out _ K8.out))
      (refine Held.takeH (i := 0) (k := 62) (v := ?_) rfl (by as_aux_lemma => kernel_rfl) (by as_aux_lemma => kernel_rfl) (by as_aux_lemma => kernel_rfl) (by as_aux_lemma => kernel_rfl) (fun _ _ _ h => h) (Or.inl ⟨by rfl, ?_⟩) (by assumption) ?_; rotate_left; (focus (intro w hSw; (try dsimp only at hSw); go_simp; (try with_reducible rfl))); (simp only [List.setIfInBounds_toArray, List.set_cons_zero, List.set_cons_succ]))
      (refine Held.takeH (i := 1) (k := 63) (v := ?_) rfl (by as_aux_lemma => kernel_rfl) (by as_aux_lemma => kernel_rfl) (by as_aux_lemma => kernel_rfl) (by as_aux_lemma => kernel_rfl) (fun _ _ _ h => h) (Or.inl ⟨by rfl, ?_⟩) (by assumption) ?_; rotate_left; (focus (intro w hSw; (try dsimp only at hSw); go_simp; (try with_reducible rfl))); (simp only [List.setIfInBounds_toArray, List.set_cons_zero, List.set_cons_succ]))
      (refine Held.takeH (i := 2) (k := 64) (v := .bool false) rfl (by as_aux_lemma => kernel_rfl) (by as_aux_lemma => kernel_rfl) (by as_aux_lemma => kernel_rfl) (by as_aux_lemma => kernel_rfl) (fun _ _ _ h => h) (Or.inl ⟨by rfl, ?_⟩) (by assumption) ?_; (focus (intro w hSw; (try dsimp only at hSw); go_simp; (try rfl))); (simp only [List.setIfInBounds_toArray, List.set_cons_zero, List.set_cons_succ]))
      (refine Held.takeH (i := 3) (k := 65) (v := .bool false) rfl (by as_aux_lemma => kernel_rfl) (by as_aux_lemma => kernel_rfl) (by as_aux_lemma => kernel_rfl) (by as_aux_lemma => kernel_rfl) (fun _ _ _ h => h) (Or.inl ⟨by rfl, ?_⟩) (by assumption) ?_; (focus (intro w hSw; (try dsimp only at hSw); go_simp; (try rfl))); (simp only [List.setIfInBounds_toArray, List.set_cons_zero, List.set_cons_succ]))
      (refine Held.takeH (i := 4) (k := 66) (v := ?_) rfl (by as_aux_lemma => kernel_rfl) (by as_aux_lemma => kernel_rfl) (by as_aux_lemma => kernel_rfl) (by as_aux_lemma => kernel_rfl) (fun _ _ _ h => h) (Or.inl ⟨by rfl, ?_⟩) (by assumption) ?_; rotate_left; (focus (intro w hSw; (try dsimp only at hSw); go_simp; (try with_reducible rfl))); (simp only [List.setIfInBounds_toArray, List.set_cons_zero, List.set_cons_succ]))
      (refine Held.takeH (i := 5) (k := 67) (v := ?_) rfl (by as_aux_lemma => kernel_rfl) (by as_aux_lemma => kernel_rfl) (by as_aux_lemma => kernel_rfl) (by as_aux_lemma => kernel_rfl) (fun _ _ _ h => h) (Or.inl ⟨by rfl, ?_⟩) (by assumption) ?_; rotate_left; (focus (intro w hSw; (try dsimp only at hSw); go_simp; (try with_reducible rfl))); (simp only [List.setIfInBounds_toArray, List.set_cons_zero, List.set_cons_succ]))
      (refine Held.takeH (i := 6) (k := 68) (v := .bool false) rfl (by as_aux_lemma => kernel_rfl) (by as_aux_lemma => kernel_rfl) (by as_aux_lemma => kernel_rfl) (by as_aux_lemma => kernel_rfl) (fun _ _ _ h => h) (Or.inl ⟨by rfl, ?_⟩) (by assumption) ?_; (focus (intro w hSw; (try dsimp only at hSw); go_simp; (try rfl))); (simp only [List.setIfInBounds_toArray, List.set_cons_zero, List.set_cons_succ]))
      (refine Held.takeH (i := 7) (k := 69) (v := .bool false) rfl (by as_aux_lemma => kernel_rfl) (by as_aux_lemma => kernel_rfl) (by as_aux_lemma => kernel_rfl) (by as_aux_lemma => kernel_rfl) (fun _ _ _ h => h) (Or.inl ⟨by rfl, ?_⟩) (by assumption) ?_; (focus (intro w hSw; (try dsimp only at hSw); go_simp; (try rfl))); (simp only [List.setIfInBounds_toArray, List.set_cons_zero, List.set_cons_succ]))
      (refine Held.takeH (i := 8) (k := 70) (v := .bool false) rfl (by as_aux_lemma => kernel_rfl) (by as_aux_lemma => kernel_rfl) (by as_aux_lemma => kernel_rfl) (by as_aux_lemma => kernel_rfl) (fun _ _ _ h => h) (Or.inl ⟨by rfl, ?_⟩) (by assumption) ?_; (focus (intro w hSw; (try dsimp only at hSw); go_simp; (try rfl))); (simp only [List.setIfInBounds_toArray, List.set_cons_zero, List.set_cons_succ]))
      (refine Held.takeH (i := 9) (k := 71) (v := ?_) rfl (by as_aux_lemma => kernel_rfl) (by as_aux_lemma => kernel_rfl) (by as_aux_lemma => kernel_rfl) (by as_aux_lemma => kernel_rfl) (fun _ _ _ h => h) (Or.inl ⟨by rfl, ?_⟩) (by assumption) ?_; rotate_left; (focus (intro w hSw; (try dsimp only at hSw); go_simp; (try with_reducible rfl))); (simp only [List.setIfInBounds_toArray, List.set_cons_zero, List.set_cons_succ]))
      (refine Held.takeH (i := 10) (k := 72) (v := ?_) rfl (by as_aux_lemma => kernel_rfl) (by as_aux_lemma => kernel_rfl) (by as_aux_lemma => kernel_rfl) (by as_aux_lemma => kernel_rfl) (fun _ _ _ h => h) (Or.inl ⟨by rfl, ?_⟩) (by assumption) ?_; rotate_left; (focus (intro w hSw; (try dsimp only at hSw); go_simp; (try with_reducible rfl))); (simp only [List.setIfInBounds_toArray, List.set_cons_zero, List.set_cons_succ]))
      (refine Held.takeH (i := 11) (k := 73) (v := ?_) rfl (by as_aux_lemma => kernel_rfl) (by as_aux_lemma => kernel_rfl) (by as_aux_lemma => kernel_rfl) (by as_aux_lemma => kernel_rfl) (fun _ _ _ h => h) (Or.inl ⟨by rfl, ?_⟩) (by assumption) ?_; rotate_left; (focus (intro w hSw; (try dsimp only at hSw); go_simp; (try with_reducible rfl))); (simp only [List.setIfInBounds_toArray, List.set_cons_zero, List.set_cons_succ]))
      (refine Held.takeH (i := 12) (k := 74) (v := ?_) rfl (by as_aux_lemma => kernel_rfl) (by as_aux_lemma => kernel_rfl) (by as_aux_lemma => kernel_rfl) (by as_aux_lemma => kernel_rfl) (fun _ _ _ h => h) (Or.inl ⟨by rfl, ?_⟩) (by assumption) ?_; rotate_left; (focus (intro w hSw; (try dsimp only at hSw); go_simp; (try with_reducible rfl))); (simp only [List.setIfInBounds_toArray, List.set_cons_zero, List.set_cons_succ]))
      (refine Held.takeH (i := 13) (k := 75) (v := ?_) rfl (by as_aux_lemma => kernel_rfl) (by as_aux_lemma => kernel_rfl) (by as_aux_lemma => kernel_rfl) (by as_aux_lemma => kernel_rfl) (fun _ _ _ h => h) (Or.inl ⟨by rfl, ?_⟩) (by assumption) ?_; rotate_left; (focus (intro w hSw; (try dsimp only at hSw); go_simp; (try with_reducible rfl))); (simp only [List.setIfInBounds_toArray, List.set_cons_zero, List.set_cons_succ]))
      (refine Held.takeH (i := 15) (k := 77) (v := ?_) rfl (by as_aux_lemma => kernel_rfl) (by as_aux_lemma => kernel_rfl) (by as_aux_lemma => kernel_rfl) (by as_aux_lemma => kernel_rfl) (fun _ _ _ h => h) (Or.inl ⟨by rfl, ?_⟩) (by assumption) ?_; rotate_left; (focus (intro w hSw; (try dsimp only at hSw); go_simp; (try with_reducible rfl))); (simp only [List.setIfInBounds_toArray, List.set_cons_zero, List.set_cons_succ]))
      (refine Held.takeH (i := 16) (k := 78) (v := ?_) rfl (by as_aux_lemma => kernel_rfl) (by as_aux_lemma => kernel_rfl) (by as_aux_lemma => kernel_rfl) (by as_aux_lemma => kernel_rfl) (fun _ _ _ h => h) (Or.inl ⟨by rfl, ?_⟩) (by assumption) ?_; rotate_left; (focus (intro w hSw; (try dsimp only at hSw); go_simp; (try with_reducible rfl))); (simp only [List.setIfInBounds_toArray, List.set_cons_zero, List.set_cons_succ]))
      (refine Held.takeH (i := 17) (k := 79) (v := ?_) rfl (by as_aux_lemma => kernel_rfl) (by as_aux_lemma => kernel_rfl) (by as_aux_lemma => kernel_rfl) (by as_aux_lemma => kernel_rfl) (fun _ _ _ h => h) (Or.inl ⟨by rfl, ?_⟩) (by assumption) ?_; rotate_left; (focus (intro w hSw; (try dsimp only at hSw); go_simp; (try with_reducible rfl))); (simp only [List.setIfInBounds_toArray, List.set_cons_zero, List.set_cons_succ]))
      (refine Held.takeH (i := 18) (k := 80) (v := ?_) rfl (by as_aux_lemma => kernel_rfl) (by as_aux_lemma => kernel_rfl) (by as_aux_lemma => kernel_rfl) (by as_aux_lemma => kernel_rfl) (fun _ _ _ h => h) (Or.inl ⟨by rfl, ?_⟩) (by assumption) ?_; rotate_left; (focus (intro w hSw; (try dsimp only at hSw); go_simp; (try with_reducible rfl))); (simp only [List.setIfInBounds_toArray, List.set_cons_zero, List.set_cons_succ]))
      (refine Held.takeH (i := 19) (k := 81) (v := ?_) rfl (by as_aux_lemma => kernel_rfl) (by as_aux_lemma => kernel_rfl) (by as_aux_lemma => kernel_rfl) (by as_aux_lemma => kernel_rfl) (fun _ _ _ h => h) (Or.inl ⟨by rfl, ?_⟩) (by assumption) ?_; rotate_left; (focus (intro w hSw; (try dsimp only at hSw); go_simp; (try with_reducible rfl))); (simp only [List.setIfInBounds_toArray, List.set_cons_zero, List.set_cons_succ]))
      refine wpAnyH_ready (rs := [14]) (by as_aux_lemma => kernel_rfl) (by simp) ?_
      refine AllReadyH.cons rfl (fun K hK => ?_) AllReadyH.nil
      go_simp
      refine (HII.out _ hHeld).mono ?_
      rintro e' w' ⟨rfl, hS'⟩
      refine hK.out _ _ hS' (fun hHeld => ?_)
      clear hK K
      try simp only [Act.put, List.setIfInBounds_toArray, List.set_cons_zero, List.set_cons_succ]
      refine wpAnyH_ready (rs := [20]) (by as_aux_lemma => kernel_rfl) (by simp) ?_
      refine AllReadyH.cons rfl (fun K hK => ?_) AllReadyH.nil
      go_simp
      refine (HIS.out _ hHeld).mono ?_
      rintro e' w' ⟨rfl, hS'⟩
      refine hK.out _ _ hS' (fun hHeld => ?_)
      clear hK K
      try simp only [Act.put, List.setIfInBounds_toArray, List.set_cons_zero, List.set_cons_succ]
      (refine Held.takeH (i := 21) (k := 83) (v := .bool false) rfl (by as_aux_lemma => kernel_rfl) (by as_aux_lemma => kernel_rfl) (by as_aux_lemma => kernel_rfl) (by as_aux_lemma => kernel_rfl) (fun _ _ _ h => h) (Or.inl ⟨by rfl, ?_⟩) (by assumption) ?_; (focus (intro w hSw; (try dsimp only at hSw); go_simp; (try rfl))); (simp only [List.setIfInBounds_toArray, List.set_cons_zero, List.set_cons_succ]))
      (refine Held.takeH (i := 22) (k := 84) (v := .bool false) rfl (by as_aux_lemma => kernel_rfl) (by as_aux_lemma => kernel_rfl) (by as_aux_lemma => kernel_rfl) (by as_aux_lemma => kernel_rfl) (fun _ _ _ h => h) (Or.inl ⟨by rfl, ?_⟩) (by assumption) ?_; (focus (intro w hSw; (try dsimp only at hSw); go_simp; (try rfl))); (simp only [List.setIfInBounds_toArray, List.set_cons_zero, List.set_cons_succ]))
      (refine Held.takeH (i := 23) (k := 85) (v := .bool false) rfl (by as_aux_lemma => kernel_rfl) (by as_aux_lemma => kernel_rfl) (by as_aux_lemma => kernel_rfl) (by as_aux_lemma => kernel_rfl) (fun _ _ _ h => h) (Or.inl ⟨by rfl, ?_⟩) (by assumption) ?_; (focus (intro w hSw; (try dsimp only at hSw); go_simp; (try rfl))); (simp only [List.setIfInBounds_toArray, List.set_cons_zero, List.set_cons_succ]))
      (refine Held.takeH (i := 24) (k := 86) (v := ?_) rfl (by as_aux_lemma => kernel_rfl) (by as_aux_lemma => kernel_rfl) (by as_aux_lemma => kernel_rfl) (by as_aux_lemma => kernel_rfl) (fun _ _ _ h => h) (Or.inl ⟨by rfl, ?_⟩) (by assumption) ?_; rotate_left; (focus (intro w hSw; (try dsimp only at hSw); go_simp; (try with_reducible rfl))); (simp only [List.setIfInBounds_toArray, List.set_cons_zero, List.set_cons_succ]))
      (refine Held.takeH (i := 25) (k := 87) (v := ?_) rfl (by as_aux_lemma => kernel_rfl) (by as_aux_lemma => kernel_rfl) (by as_aux_lemma => kernel_rfl) (by as_aux_lemma => kernel_rfl) (fun _ _ _ h => h) (Or.inl ⟨by rfl, ?_⟩) (by assumption) ?_; rotate_left; (focus (intro w hSw; (try dsimp only at hSw); go_simp; (try with_reducible rfl))); (simp only [List.setIfInBounds_toArray, List.set_cons_zero, List.set_cons_succ]))
      refine wpAnyH_ready (rs := [26]) (by as_aux_lemma => kernel_rfl) (by simp) ?_
      refine AllReadyH.cons rfl (fun K hK => ?_) AllReadyH.nil
      go_simp
      refine (HQS.out _ hHeld).mono ?_
      rintro e' w' ⟨⟨a', c', rfl, t'⟩, hS'⟩
      refine hK.out _ _ hS' (fun hHeld => ?_)
      clear hK K
      try simp only [Act.put, List.setIfInBounds_toArray, List.set_cons_zero, List.set_cons_succ]
      refine wpAnyH_ready (rs := [27]) (by as_aux_lemma => kernel_rfl) (by simp) ?_
      refine AllReadyH.cons rfl (fun K hK => ?_) AllReadyH.nil
      go_simp
      refine (HSL.out _ _ _ hHeld t').mono ?_
      rintro e' w' ⟨rfl, hS'⟩
      refine hK.out _ _ hS' (fun hHeld => ?_)
      clear hK K
      try simp only [Act.put, List.setIfInBounds_toArray, List.set_cons_zero, List.set_cons_succ]
      (refine Held.takeH (i := 28) (k := 90) (v := .bool false) rfl (by as_aux_lemma => kernel_rfl) (by as_aux_lemma => kernel_rfl) (by as_aux_lemma => kernel_rfl) (by as_aux_lemma => kernel_rfl) (fun _ _ _ h => h) (Or.inl ⟨by rfl, ?_⟩) (by assumption) ?_; (focus (intro w hSw; (try dsimp only at hSw); go_simp; (try rfl))); (simp only [List.setIfInBounds_toArray, List.set_cons_zero, List.set_cons_succ]))
      (refine Held.takeH (i := 29) (k := 91) (v := .bool false) rfl (by as_aux_lemma => kernel_rfl) (by as_aux_lemma => kernel_rfl) (by as_aux_lemma => kernel_rfl) (by as_aux_lemma => kernel_rfl) (fun _ _ _ h => h) (Or.inl ⟨by rfl, ?_⟩) (by assumption) ?_; (focus (intro w hSw; (try dsimp only at hSw); go_simp; (try rfl))); (simp only [List.setIfInBounds_toArray, List.set_cons_zero, List.set_cons_succ]))
      (refine Held.takeH (i := 30) (k := 92) (v := .bool false) rfl (by as_aux_lemma => kernel_rfl) (by as_aux_lemma => kernel_rfl) (by as_aux_lemma => kernel_rfl) (by as_aux_lemma => kernel_rfl) (fun _ _ _ h => h) (Or.inl ⟨by rfl, ?_⟩) (by assumption) ?_; (focus (intro w hSw; (try dsimp only at hSw); go_simp; (try rfl))); (simp only [List.setIfInBounds_toArray, List.set_cons_zero, List.set_cons_succ]))
      (refine Held.takeH (i := 31) (k := 93) (v := ?_) rfl (by as_aux_lemma => kernel_rfl) (by as_aux_lemma => kernel_rfl) (by as_aux_lemma => kernel_rfl) (by as_aux_lemma => kernel_rfl) (fun _ _ _ h => h) (Or.inl ⟨by rfl, ?_⟩) (by assumption) ?_; rotate_left; (focus (intro w hSw; (try dsimp only at hSw); go_simp; (try with_reducible rfl))); (simp only [List.setIfInBounds_toArray, List.set_cons_zero, List.set_cons_succ]))
      (refine Held.takeH (i := 33) (k := 95) (v := ?_) rfl (by as_aux_lemma => kernel_rfl) (by as_aux_lemma => kernel_rfl) (by as_aux_lemma => kernel_rfl) (by as_aux_lemma => kernel_rfl) (fun _ _ _ h => h) (Or.inl ⟨by rfl, ?_⟩) (by assumption) ?_; rotate_left; (focus (intro w hSw; (try dsimp only at hSw); go_simp; (try with_reducible rfl))); (simp only [List.setIfInBounds_toArray, List.set_cons_zero, List.set_cons_succ]))
      refine wpAnyH_ready (rs := [32]) (by as_aux_lemma => kernel_rfl) (by simp) ?_
      refine AllReadyH.cons rfl (fun K hK => ?_) AllReadyH.nil
      go_simp
      refine (HCI.out _ hHeld).mono ?_
      rintro e' w' ⟨rfl, hS'⟩
      refine hK.out _ _ hS' (fun hHeld => ?_)
      clear hK K
      try simp only [Act.put, List.setIfInBounds_toArray, List.set_cons_zero, List.set_cons_succ]
      refine wpAnyH_ready (rs := [34]) (by as_aux_lemma => kernel_rfl) (by simp) ?_
      refine AllReadyH.cons rfl (fun K hK => ?_) AllReadyH.nil
      go_simp
      refine (HCS.out _ hHeld).mono ?_
      rintro e' w' ⟨rfl, hS'⟩
      refine hK.out _ _ hS' (fun hHeld => ?_)
      clear hK K
      try simp only [Act.put, List.setIfInBounds_toArray, List.set_cons_zero, List.set_cons_succ]
      (refine Held.takeH (i := 35) (k := 97) (v := .bool false) rfl (by as_aux_lemma => kernel_rfl) (by as_aux_lemma => kernel_rfl) (by as_aux_lemma => kernel_rfl) (by as_aux_lemma => kernel_rfl) (fun _ _ _ h => h) (Or.inl ⟨by rfl, ?_⟩) (by assumption) ?_; (focus (intro w hSw; (try dsimp only at hSw); go_simp; (try rfl))); (simp only [List.setIfInBounds_toArray, List.set_cons_zero, List.set_cons_succ]))
      (refine Held.takeH (i := 36) (k := 98) (v := .bool false) rfl (by as_aux_lemma => kernel_rfl) (by as_aux_lemma => kernel_rfl) (by as_aux_lemma => kernel_rfl) (by as_aux_lemma => kernel_rfl) (fun _ _ _ h => h) (Or.inl ⟨by rfl, ?_⟩) (by assumption) ?_; (focus (intro w hSw; (try dsimp only at hSw); go_simp; (try rfl))); (simp only [List.setIfInBounds_toArray, List.set_cons_zero, List.set_cons_succ]))
      (refine Held.takeH (i := 37) (k := 99) (v := .bool false) rfl (by as_aux_lemma => kernel_rfl) (by as_aux_lemma => kernel_rfl) (by as_aux_lemma => kernel_rfl) (by as_aux_lemma => kernel_rfl) (fun _ _ _ h => h) (Or.inl ⟨by rfl, ?_⟩) (by assumption) ?_; (focus (intro w hSw; (try dsimp only at hSw); go_simp; (try rfl))); (simp only [List.setIfInBounds_toArray, List.set_cons_zero, List.set_cons_succ]))
      (refine Held.takeH (i := 38) (k := 100) (v := ?_) rfl (by as_aux_lemma => kernel_rfl) (by as_aux_lemma => kernel_rfl) (by as_aux_lemma => kernel_rfl) (by as_aux_lemma => kernel_rfl) (fun _ _ _ h => h) (Or.inl ⟨by rfl, ?_⟩) (by assumption) ?_; rotate_left; (focus (intro w hSw; (try dsimp only at hSw); go_simp; (try with_reducible rfl))); (simp only [List.setIfInBounds_toArray, List.set_cons_zero, List.set_cons_succ]))
      (refine Held.takeH (i := 39) (k := 101) (v := ?_) rfl (by as_aux_lemma => kernel_rfl) (by as_aux_lemma => kernel_rfl) (by as_aux_lemma => kernel_rfl) (by as_aux_lemma => kernel_rfl) (fun _ _ _ h => h) (Or.inl ⟨by rfl, ?_⟩) (by assumption) ?_; rotate_left; (focus (intro w hSw; (try dsimp only at hSw); go_simp; (try with_reducible rfl))); (simp only [List.setIfInBounds_toArray, List.set_cons_zero, List.set_cons_succ]))
      (refine Held.takeH (i := 40) (k := 102) (v := ?_) rfl (by as_aux_lemma => kernel_rfl) (by as_aux_lemma => kernel_rfl) (by as_aux_lemma => kernel_rfl) (by as_aux_lemma => kernel_rfl) (fun _ _ _ h => h) (Or.inl ⟨by rfl, ?_⟩) (by assumption) ?_; rotate_left; (focus (intro w hSw; (try dsimp only at hSw); go_simp; (try with_reducible rfl))); (simp only [List.setIfInBounds_toArray, List.set_cons_zero, List.set_cons_succ]))
      (refine Held.takeH (i := 41) (k := 103) (v := ?_) rfl (by as_aux_lemma => kernel_rfl) (by as_aux_lemma => kernel_rfl) (by as_aux_lemma => kernel_rfl) (by as_aux_lemma => kernel_rfl) (fun _ _ _ h => h) (Or.inl ⟨by rfl, ?_⟩) (by assumption) ?_; rotate_left; (focus (intro w hSw; (try dsimp only at hSw); go_simp; (try with_reducible rfl))); (simp only [List.setIfInBounds_toArray, List.set_cons_zero, List.set_cons_succ]))
      (refine Held.takeH (i := 42) (k := 104) (v := ?_) rfl (by as_aux_lemma => kernel_rfl) (by as_aux_lemma => kernel_rfl) (by as_aux_lemma => kernel_rfl) (by as_aux_lemma => kernel_rfl) (fun _ _ _ h => h) (Or.inl ⟨by rfl, ?_⟩) (by assumption) ?_; rotate_left; (focus (intro w hSw; (try dsimp only at hSw); go_simp; (try with_reducible rfl))); (simp only [List.setIfInBounds_toArray, List.set_cons_zero, List.set_cons_succ]))
      (refine Held.takeH (i := 44) (k := 106) (v := ?_) rfl (by as_aux_lemma => kernel_rfl) (by as_aux_lemma => kernel_rfl) (by as_aux_lemma => kernel_rfl) (by as_aux_lemma => kernel_rfl) (fun _ _ _ h => h) (Or.inl ⟨by rfl, ?_⟩) (by assumption) ?_; rotate_left; (focus (intro w hSw; (try dsimp only at hSw); go_simp; (try with_reducible rfl))); (simp only [List.setIfInBounds_toArray, List.set_cons_zero, List.set_cons_succ]))
      (refine Held.takeH (i := 45) (k := 107) (v := ?_) rfl (by as_aux_lemma => kernel_rfl) (by as_aux_lemma => kernel_rfl) (by as_aux_lemma => kernel_rfl) (by as_aux_lemma => kernel_rfl) (fun _ _ _ h => h) (Or.inl ⟨by rfl, ?_⟩) (by assumption) ?_; rotate_left; (focus (intro w hSw; (try dsimp only at hSw); go_simp; (try with_reducible rfl))); (simp only [List.setIfInBounds_toArray, List.set_cons_zero, List.set_cons_succ]))
      (refine Held.takeH (i := 46) (k := 108) (v := ?_) rfl (by as_aux_lemma => kernel_rfl) (by as_aux_lemma => kernel_rfl) (by as_aux_lemma => kernel_rfl) (by as_aux_lemma => kernel_rfl) (fun _ _ _ h => h) (Or.inl ⟨by rfl, ?_⟩) (by assumption) ?_; rotate_left; (focus (intro w hSw; (try dsimp only at hSw); go_simp; (try with_reducible rfl))); (simp only [List.setIfInBounds_toArray, List.set_cons_zero, List.set_cons_succ]))
      (refine Held.takeH (i := 47) (k := 109) (v := ?_) rfl (by as_aux_lemma => kernel_rfl) (by as_aux_lemma => kernel_rfl) (by as_aux_lemma => kernel_rfl) (by as_aux_lemma => kernel_rfl) (fun _ _ _ h => h) (Or.inl ⟨by rfl, ?_⟩) (by assumption) ?_; rotate_left; (focus (intro w hSw; (try dsimp only at hSw); go_simp; (try with_reducible rfl))); (simp only [List.setIfInBounds_toArray, List.set_cons_zero, List.set_cons_succ]))
      (refine Held.takeH (i := 48) (k := 110) (v := ?_) rfl (by as_aux_lemma => kernel_rfl) (by as_aux_lemma => kernel_rfl) (by as_aux_lemma => kernel_rfl) (by as_aux_lemma => kernel_rfl) (fun _ _ _ h => h) (Or.inl ⟨by rfl, ?_⟩) (by assumption) ?_; rotate_left; (focus (intro w hSw; (try dsimp only at hSw); go_simp; (try with_reducible rfl))); (simp only [List.setIfInBounds_toArray, List.set_cons_zero, List.set_cons_succ]))
      refine wpAnyH_ready (rs := [43]) (by as_aux_lemma => kernel_rfl) (by simp) ?_
      refine AllReadyH.cons rfl (fun K hK => ?_) AllReadyH.nil
      go_simp
      refine (HTI.out _ hHeld).mono ?_
      rintro e' w' ⟨rfl, hS'⟩
      refine hK.out _ _ hS' (fun hHeld => ?_)
      clear hK K
      try simp only [Act.put, List.setIfInBounds_toArray, List.set_cons_zero, List.set_cons_succ]
      refine wpAnyH_ready (rs := [49]) (by as_aux_lemma => kernel_rfl) (by simp) ?_
      refine AllReadyH.cons rfl (fun K hK => ?_) AllReadyH.nil
      go_simp
      refine (HTS.out _ hHeld).mono ?_
      rintro e' w' ⟨rfl, hS'⟩
      refine hK.out _ _ hS' (fun hHeld => ?_)
      clear hK K
      try simp only [Act.put, List.setIfInBounds_toArray, List.set_cons_zero, List.set_cons_succ]
      (refine Held.takeH (i := 50) (k := 112) (v := .bool false) rfl (by as_aux_lemma => kernel_rfl) (by as_aux_lemma => kernel_rfl) (by as_aux_lemma => kernel_rfl) (by as_aux_lemma => kernel_rfl) (fun _ _ _ h => h) (Or.inl ⟨by rfl, ?_⟩) (by assumption) ?_; (focus (intro w hSw; (try dsimp only at hSw); go_simp; (try rfl))); (simp only [List.setIfInBounds_toArray, List.set_cons_zero, List.set_cons_succ]))
      (refine Held.takeH (i := 51) (k := 113) (v := .bool false) rfl (by as_aux_lemma => kernel_rfl) (by as_aux_lemma => kernel_rfl) (by as_aux_lemma => kernel_rfl) (by as_aux_lemma => kernel_rfl) (fun _ _ _ h => h) (Or.inl ⟨by rfl, ?_⟩) (by assumption) ?_; (focus (intro w hSw; (try dsimp only at hSw); go_simp; (try rfl))); (simp only [List.setIfInBounds_toArray, List.set_cons_zero, List.set_cons_succ]))
      (refine Held.takeH (i := 52) (k := 114) (v := .bool false) rfl (by as_aux_lemma => kernel_rfl) (by as_aux_lemma => kernel_rfl) (by as_aux_lemma => kernel_rfl) (by as_aux_lemma => kernel_rfl) (fun _ _ _ h => h) (Or.inl ⟨by rfl, ?_⟩) (by assumption) ?_; (focus (intro w hSw; (try dsimp only at hSw); go_simp; (try rfl))); (simp only [List.setIfInBounds_toArray, List.set_cons_zero, List.set_cons_succ]))
      (refine Held.takeH (i := 53) (k := 115) (v := ?_) rfl (by as_aux_lemma => kernel_rfl) (by as_aux_lemma => kernel_rfl) (by as_aux_lemma => kernel_rfl) (by as_aux_lemma => kernel_rfl) (fun _ _ _ h => h) (Or.inl ⟨by rfl, ?_⟩) (by assumption) ?_; rotate_left; (focus (intro w hSw; (try dsimp only at hSw); go_simp; (try with_reducible rfl))); (simp only [List.setIfInBounds_toArray, List.set_cons_zero, List.set_cons_succ]))
      (refine Held.takeH (i := 54) (k := 116) (v := ?_) rfl (by as_aux_lemma => kernel_rfl) (by as_aux_lemma => kernel_rfl) (by as_aux_lemma => kernel_rfl) (by as_aux_lemma => kernel_rfl) (fun _ _ _ h => h) (Or.inl ⟨by rfl, ?_⟩) (by assumption) ?_; rotate_left; (focus (intro w hSw; (try dsimp only at hSw); go_simp; (try with_reducible rfl))); (simp only [List.setIfInBounds_toArray, List.set_cons_zero, List.set_cons_succ]))
      (refine Held.takeH (i := 55) (k := 117) (v := ?_) rfl (by as_aux_lemma => kernel_rfl) (by as_aux_lemma => kernel_rfl) (by as_aux_lemma => kernel_rfl) (by as_aux_lemma => kernel_rfl) (fun _ _ _ h => h) (Or.inl ⟨by rfl, ?_⟩) (by assumption) ?_; rotate_left; (focus (intro w hSw; (try dsimp only at hSw); go_simp; (try with_reducible rfl))); (simp only [List.setIfInBounds_toArray, List.set_cons_zero, List.set_cons_succ]))
      (refine Held.takeH (i := 56) (k := 118) (v := ?_) rfl (by as_aux_lemma => kernel_rfl) (by as_aux_lemma => kernel_rfl) (by as_aux_lemma => kernel_rfl) (by as_aux_lemma => kernel_rfl) (fun _ _ _ h => h) (Or.inl ⟨by rfl, ?_⟩) (by assumption) ?_; rotate_left; (focus (intro w hSw; (try dsimp only at hSw); go_simp; (try with_reducible rfl))); (simp only [List.setIfInBounds_toArray, List.set_cons_zero, List.set_cons_succ]))
      (refine Held.takeH (i := 58) (k := 120) (v := ?_) rfl (by as_aux_lemma => kernel_rfl) (by as_aux_lemma => kernel_rfl) (by as_aux_lemma => kernel_rfl) (by as_aux_lemma => kernel_rfl) (fun _ _ _ h => h) (Or.inl ⟨by rfl, ?_⟩) (by assumption) ?_; rotate_left; (focus (intro w hSw; (try dsimp only at hSw); go_simp; (try with_reducible rfl))); (simp only [List.setIfInBounds_toArray, List.set_cons_zero, List.set_cons_succ]))
      (refine Held.takeH (i := 59) (k := 121) (v := ?_) rfl (by as_aux_lemma => kernel_rfl) (by as_aux_lemma => kernel_rfl) (by as_aux_lemma => kernel_rfl) (by as_aux_lemma => kernel_rfl) (fun _ _ _ h => h) (Or.inl ⟨by rfl, ?_⟩) (by assumption) ?_; rotate_left; (focus (intro w hSw; (try dsimp only at hSw); go_simp; (try with_reducible rfl))); (simp only [List.setIfInBounds_toArray, List.set_cons_zero, List.set_cons_succ]))
      (refine Held.takeH (i := 60) (k := 122) (v := ?_) rfl (by as_aux_lemma => kernel_rfl) (by as_aux_lemma => kernel_rfl) (by as_aux_lemma => kernel_rfl) (by as_aux_lemma => kernel_rfl) (fun _ _ _ h => h) (Or.inl ⟨by rfl, ?_⟩) (by assumption) ?_; rotate_left; (focus (intro w hSw; (try dsimp only at hSw); go_simp; (try with_reducible rfl))); (simp only [List.setIfInBounds_toArray, List.set_cons_zero, List.set_cons_succ]))
      (refine Held.takeH (i := 61) (k := 123) (v := ?_) rfl (by as_aux_lemma => kernel_rfl) (by as_aux_lemma => kernel_rfl) (by as_aux_lemma => kernel_rfl) (by as_aux_lemma => kernel_rfl) (fun _ _ _ h => h) (Or.inl ⟨by rfl, ?_⟩) (by assumption) ?_; rotate_left; (focus (intro w hSw; (try dsimp only at hSw); go_simp; (try with_reducible rfl))); (simp only [List.setIfInBounds_toArray, List.set_cons_zero, List.set_cons_succ]))
      refine wpAnyH_ready (rs := [57]) (by as_aux_lemma => kernel_rfl) (by simp) ?_
      refine AllReadyH.cons rfl (fun K hK => ?_) AllReadyH.nil
      go_simp
      refine (HNI.out _ hHeld).mono ?_
      rintro e' w' ⟨rfl, hS'⟩
      refine hK.out _ _ hS' (fun hHeld => ?_)
      clear hK K
      try simp only [Act.put, List.setIfInBounds_toArray, List.set_cons_zero, List.set_cons_succ]
      refine wpAnyH_ready (rs := [62]) (by as_aux_lemma => kernel_rfl) (by simp) ?_
      refine AllReadyH.cons rfl (fun K hK => ?_) AllReadyH.nil
      go_simp
      refine (HNS.out _ hHeld).mono ?_
      rintro e' w' ⟨rfl, hS'⟩
      refine hK.out _ _ hS' (fun hHeld => ?_)
      clear hK K
      try simp only [Act.put, List.setIfInBounds_toArray, List.set_cons_zero, List.set_cons_succ]
      (refine Held.takeH (i := 63) (k := 125) (v := .bool false) rfl (by as_aux_lemma => kernel_rfl) (by as_aux_lemma => kernel_rfl) (by as_aux_lemma => kernel_rfl) (by as_aux_lemma => kernel_rfl) (fun _ _ _ h => h) (Or.inl ⟨by rfl, ?_⟩) (by assumption) ?_; (focus (intro w hSw; (try dsimp only at hSw); go_simp; (try rfl))); (simp only [List.setIfInBounds_toArray, List.set_cons_zero, List.set_cons_succ]))
      (refine Held.takeH (i := 64) (k := 126) (v := .bool false) rfl (by as_aux_lemma => kernel_rfl) (by as_aux_lemma => kernel_rfl) (by as_aux_lemma => kernel_rfl) (by as_aux_lemma => kernel_rfl) (fun _ _ _ h => h) (Or.inl ⟨by rfl, ?_⟩) (by assumption) ?_; (focus (intro w hSw; (try dsimp only at hSw); go_simp; (try rfl))); (simp only [List.setIfInBounds_toArray, List.set_cons_zero, List.set_cons_succ]))
      (refine Held.takeH (i := 65) (k := 127) (v := .bool false) rfl (by as_aux_lemma => kernel_rfl) (by as_aux_lemma => kernel_rfl) (by as_aux_lemma => kernel_rfl) (by as_aux_lemma => kernel_rfl) (fun _ _ _ h => h) (Or.inl ⟨by rfl, ?_⟩) (by assumption) ?_; (focus (intro w hSw; (try dsimp only at hSw); go_simp; (try rfl))); (simp only [List.setIfInBounds_toArray, List.set_cons_zero, List.set_cons_succ]))
      (refine Held.takeH (i := 66) (k := 128) (v := ?_) rfl (by as_aux_lemma => kernel_rfl) (by as_aux_lemma => kernel_rfl) (by as_aux_lemma => kernel_rfl) (by as_aux_lemma => kernel_rfl) (fun _ _ _ h => h) (Or.inl ⟨by rfl, ?_⟩) (by assumption) ?_; rotate_left; (focus (intro w hSw; (try dsimp only at hSw); go_simp; (try with_reducible rfl))); (simp only [List.setIfInBounds_toArray, List.set_cons_zero, List.set_cons_succ]))
      (refine Held.takeH (i := 68) (k := 130) (v := ?_) rfl (by as_aux_lemma => kernel_rfl) (by as_aux_lemma => kernel_rfl) (by as_aux_lemma => kernel_rfl) (by as_aux_lemma => kernel_rfl) (fun _ _ _ h => h) (Or.inl ⟨by rfl, ?_⟩) (by assumption) ?_; rotate_left; (focus (intro w hSw; (try dsimp only at hSw); go_simp; (try with_reducible rfl))); (simp only [List.setIfInBounds_toArray, List.set_cons_zero, List.set_cons_succ]))
      refine wpAnyH_ready (rs := [67]) (by as_aux_lemma => kernel_rfl) (by simp) ?_
      refine AllReadyH.cons rfl (fun K hK => ?_) AllReadyH.nil
      go_simp
      refine (HEI.out _ hHeld).mono ?_
      rintro e' w' ⟨rfl, hS'⟩
      refine hK.out _ _ hS' (fun hHeld => ?_)
      clear hK K
      try simp only [Act.put, List.setIfInBounds_toArray, List.set_cons_zero, List.set_cons_succ]
      refine wpAnyH_ready (rs := [69]) (by as_aux_lemma => kernel_rfl) (by simp) ?_
      refine AllReadyH.cons rfl (fun K hK => ?_) AllReadyH.nil
      go_simp
      refine (HES.out _ hHeld).mono ?_
      rintro e' w' ⟨rfl, hS'⟩
      refine hK.out _ _ hS' (fun hHeld => ?_)
      clear hK K
      try simp only [Act.put, List.setIfInBounds_toArray, List.set_cons_zero, List.set_cons_succ]
      (refine Held.takeH (i := 70) (k := 132) (v := .bool false) rfl (by as_aux_lemma => kernel_rfl) (by as_aux_lemma => kernel_rfl) (by as_aux_lemma => kernel_rfl) (by as_aux_lemma => kernel_rfl) (fun _ _ _ h => h) (Or.inl ⟨by rfl, ?_⟩) (by assumption) ?_; (focus (intro w hSw; (try dsimp only at hSw); go_simp; (try rfl))); (simp only [List.setIfInBounds_toArray, List.set_cons_zero, List.set_cons_succ]))
      (refine Held.takeH (i := 71) (k := 133) (v := .bool false) rfl (by as_aux_lemma => kernel_rfl) (by as_aux_lemma => kernel_rfl) (by as_aux_lemma => kernel_rfl) (by as_aux_lemma => kernel_rfl) (fun _ _ _ h => h) (Or.inl ⟨by rfl, ?_⟩) (by assumption) ?_; (focus (intro w hSw; (try dsimp only at hSw); go_simp; (try rfl))); (simp only [List.setIfInBounds_toArray, List.set_cons_zero, List.set_cons_succ]))
      refine wpAnyH_done (by as_aux_lemma => kernel_rfl) ?_ _
      go_wp2_with fail
      go_meet
      exact ⟨rfl, Lib.hid hHeld.2.2.2.2.2.2⟩
    case rest =>
      obtain ⟨rfl, K9⟩ := hcut
      clear K8 HII HIS HQS HSL HCI HCS HTI HTS HNI HNS HEI HES g1 g2 g3 g4 g5 g6 g7 HCsqt
      go_upto_if 135 with fail
      go_cut [2] (fun _ wx => Hid (PK wx))
      case first =>
        as_aux_lemma =>
        by_cases hpos : 0 < lft
        · obtain ⟨l, m, rfl, rfl, hl, hm, hl0, hand, hs4, hs1, hs3, hin, hswp⟩ := HSF.out hpos
          have b1 : bits BinOp.and IntKind.i64 (l : Int) (m : Int) = 0 := by rw [bits_and l m (by omega) (by omega), hand]; rfl
          have hml : ((m : Int) == (l : Int)) = false := by
            have : m ≠ l := fun e => by subst e; rw [Nat.and_self] at hand; omega
            rw [beq_eq_false_iff_ne]; omega
          have hml2 : ((l : Int) == (l : Int)) = true := by simp
          have hml3 : ((m : Int) == (m : Int)) = true := by simp
          have hlm : ((l : Int) == (m : Int)) = false := by rw [beq_eq_false_iff_ne] at hml ⊢; exact fun e => hml e.symm
          have HL := Lib.hid (fun W => size_any l hl W)
          have HM := Lib.hid (fun W => size_any m hm W)
          have hk : (sz l = 1 ∧ sz m = 3 ∧ decide (iv < 0) = false) ∨ (sz l = 2 ∧ sz m = 2 ∧ decide (iv < 0) = true) ∨ (sz l = 3 ∧ sz m = 1 ∧ decide (iv < 0) = false) := by
            rcases (by omega : sz l = 1 ∨ sz l = 2 ∨ sz l = 3) with e | e | e
            · exact .inl ⟨e, by omega, by rw [hin, e]; rfl⟩
            · exact .inr (.inl ⟨e, by omega, by rw [hin, e]; rfl⟩)
            · exact .inr (.inr ⟨e, by omega, by rw [hin, e]; rfl⟩)
          generalize sz l = kl at HL hk
          generalize sz m = km at HM hk
          have HSWP := Lib.hid hswp
          clear HSF hand hs4 hs1 hs3 hin hswp
          rcases hk with ⟨rfl, rfl, hiv⟩ | ⟨rfl, rfl, hiv⟩ | ⟨rfl, rfl, hiv⟩
          · have hiv2 : (iv < 0) = False := by simpa using hiv
            clear hiv
            obtain ⟨x0, x1, -⟩ := HCs.out _ K9.out
            go_wp2_with fail
            refine (HL.out _).mono ?_
            rintro e w' ⟨rfl, rfl⟩
            go_wp2_with fail
            refine (HM.out _).mono ?_
            rintro e w' ⟨rfl, rfl⟩
            go_wp2_with fail
            refine (HL.out _).mono ?_
            rintro e w' ⟨rfl, rfl⟩
            go_wp2_with fail
            refine (HL.out _).mono ?_
            rintro e w' ⟨rfl, rfl⟩
            go_wp2_with fail
            refine (HI1.out _ K9.out).mono ?_
            rintro e w10 ⟨rfl, hk10⟩
            have K10 := Lib.hid hk10
            clear hk10 x0 x1
            obtain ⟨x0, x1, -⟩ := HCs.out _ K10.out
            go_wp2_with fail
            refine (HL.out _).mono ?_
            rintro e w' ⟨rfl, rfl⟩
            go_wp2_with fail
            refine (HSW.out _ K10.out).mono ?_
            rintro e w11 ⟨rfl, hk11⟩
            have K11 := Lib.hid hk11
            clear hk11 x0 x1
            rcases HSWP.out with hsw | hsw
            all_goals
              rw [hsw]
              clear hsw
              go_wp2_with fail
              go_meet
              exact K11
          · have hiv2 : (iv < 0) = True := by simpa using hiv
            clear hiv
            obtain ⟨x0, x1, -⟩ := HCs.out _ K9.out
            go_wp2_with fail
            refine (HL.out _).mono ?_
            rintro e w' ⟨rfl, rfl⟩
            go_wp2_with fail
            refine (HM.out _).mono ?_
            rintro e w' ⟨rfl, rfl⟩
            go_wp2_with fail
            refine (HL.out _).mono ?_
            rintro e w' ⟨rfl, rfl⟩
            go_wp2_with fail
            refine (HL.out _).mono ?_
            rintro e w' ⟨rfl, rfl⟩
            go_wp2_with fail
            refine (HI1.out _ K9.out).mono ?_
            rintro e w10 ⟨rfl, hk10⟩
            have K10 := Lib.hid hk10
            clear hk10 x0 x1
            obtain ⟨x0, x1, -⟩ := HCs.out _ K10.out
            go_wp2_with fail
            refine (HL.out _).mono ?_
            rintro e w' ⟨rfl, rfl⟩
            go_wp2_with fail
            refine (HSW.out _ K10.out).mono ?_
            rintro e w11 ⟨rfl, hk11⟩
            have K11 := Lib.hid hk11
            clear hk11 x0 x1
            rcases HSWP.out with hsw | hsw
            all_goals
              rw [hsw]
              clear hsw
              go_wp2_with fail
              go_meet
              exact K11
          · have hiv2 : (iv < 0) = False := by simpa using hiv
            clear hiv
            obtain ⟨x0, x1, -⟩ := HCs.out _ K9.out
            go_wp2_with fail
            refine (HL.out _).mono ?_
            rintro e w' ⟨rfl, rfl⟩
            go_wp2_with fail
            refine (HM.out _).mono ?_
            rintro e w' ⟨rfl, rfl⟩
            go_wp2_with fail
            refine (HL.out _).mono ?_
            rintro e w' ⟨rfl, rfl⟩
            go_wp2_with fail
            refine (HL.out _).mono ?_
            rintro e w' ⟨rfl, rfl⟩
            go_wp2_with fail
            refine (HI1.out _ K9.out).mono ?_
            rintro e w10 ⟨rfl, hk10⟩
            have K10 := Lib.hid hk10
            clear hk10 x0 x1
            obtain ⟨x0, x1, -⟩ := HCs.out _ K10.out
            go_wp2_with fail
            refine (HL.out _).mono ?_
            rintro e w' ⟨rfl, rfl⟩
            go_wp2_with fail
            refine (HSW.out _ K10.out).mono ?_
            rintro e w11 ⟨rfl, hk11⟩
            have K11 := Lib.hid hk11
            clear hk11 x0 x1
            rcases HSWP.out with hsw | hsw
            all_goals
              rw [hsw]
              clear hsw
              go_wp2_with fail
              go_meet
              exact K11
        · go_wp2_with fail
          go_meet
          exact K9
      case rest =>
        have K12 := hcut
        clear K9 HSF HI1 HSW hcut
        -- the count
        go_upto_region 17 with fail
        go_cut [222] (fun cv wx => cv = .bool false ∧ Hid (PK wx))
        case first =>
          as_aux_lemma =>
          obtain ⟨x0, x1, -⟩ := HCq.out _ K12.out
          have hqn := HQN.out
          cases ha : aciB mq Tq.data.toList
          · rw [ha] at HAC hqn
            simp only [Bool.false_eq_true, if_false] at hqn
            subst hqn
            clear ha HQ5 HQN
            go_wp2_with fail
            refine (HCQ.out _ K12.out).mono ?_
            rintro e w13 ⟨rfl, hk13⟩
            have K13 := Lib.hid hk13
            clear hk13 x0 x1
            obtain ⟨x0, x1, -⟩ := HCq.out _ K13.out
            go_wp2_with fail
            refine (HAC.out _ K13.out).mono ?_
            rintro e w14 ⟨rfl, hk14⟩
            have K14 := Lib.hid hk14
            clear hk14 x0 x1
            go_wp2_with fail
            go_meet
            exact ⟨rfl, K14⟩
          · rw [ha] at HAC hqn
            simp only [if_true] at hqn
            subst hqn
            have hq5 := HQ5.out ha
            have v1 : ((Q.length : Int) != (Q.length : Int)) = false := by simp
            have hcs : ((5 : Int) ≤ mq ∧ ((Q.length : Int) == 0) = false) ∨ ¬ (5 : Int) ≤ mq := by
              by_cases h5 : (5 : Int) ≤ mq
              · refine .inl ⟨h5, ?_⟩
                have := hq5 h5
                cases Q with
                | nil => exact absurd rfl this
                | cons a b => rw [beq_eq_false_iff_ne]; simp only [List.length_cons]; omega
              · exact .inr h5
            have HQL := Lib.hid hl35
            clear ha HQ5 HQN hq5
            rcases hcs with ⟨h5, h0⟩ | h5
            all_goals
              go_wp2_with fail
              refine (HCQ.out _ K12.out).mono ?_
              rintro e w13 ⟨rfl, hk13⟩
              have K13 := Lib.hid hk13
              clear hk13 x0 x1
              obtain ⟨x0, x1, -⟩ := HCq.out _ K13.out
              go_wp2_with fail
              refine (HCQ.out _ K13.out).mono ?_
              rintro e w14 ⟨rfl, hk14⟩
              have K14 := Lib.hid hk14
              clear hk14 x0 x1
              obtain ⟨x0, x1, -⟩ := HCq.out _ K14.out
              go_wp2_with fail
              refine (HAC.out _ K14.out).mono ?_
              rintro e w15 ⟨rfl, hk15⟩
              have K15 := Lib.hid hk15
              clear hk15 x0 x1
              obtain ⟨x0, x1, -⟩ := HCq.out _ K15.out
              go_wp2_with fail
              go_meet
              exact ⟨rfl, K15⟩
        case rest =>
          obtain ⟨rfl, K17⟩ := hcut
          clear K12 HCQ HAC HQ5 HQN
          -- every four of the list
          go_wp2_with fail
          go_loopw [21] (fun c wr => ∃ k' : Nat, k' ≤ Q.length ∧ c = .int .i64 k' ∧ Hid (PK wr)) (fun c _ => Q.length - (intOf c).toNat)
          case atStart => exact ⟨0, Nat.zero_le _, rfl, K17⟩
          case round =>
            obtain ⟨kk, hk, rfl, K20⟩ := hrel
            by_cases hlt : kk < Q.length
            · obtain ⟨t, ht⟩ : ∃ t, Q[kk]? = some t := ⟨_, List.getElem?_eq_getElem hlt⟩
              have hmem : t ∈ Q := List.mem_of_getElem? ht
              have hin := HQF.out t hmem
              have hsm := HFM.out t hmem
              obtain ⟨lo, hi, hLL⟩ := HLR2.out
              obtain ⟨g, hg, hal⟩ : ∃ g, gs[kk]? = some g ∧ al = some ⟨bl, 0, none⟩ := by
                rcases hLL _ K20.out with he | ⟨h1, h2⟩
                · have := rows4_length Q; rw [he] at this; simp at this; omega
                · exact ⟨_, List.getElem?_eq_getElem (by rw [h2.len, rows4_length]; exact hlt), h1⟩
              subst hal
              have HRC : Hid (∀ W, PK W → W.cell? ⟨bq, 0, none⟩ = some (.int .i64 mq) ∧ W.cell? ⟨bq, 1, none⟩ = some (.string Tq) ∧ W.cell? ⟨bl, kk, none⟩ = some (.slice (some ⟨g.1, 0, none⟩) 4 g.2) ∧ W.cell? ⟨g.1, 0, none⟩ = some (.int .i64 t.1) ∧ W.cell? ⟨g.1, 1, none⟩ = some (.int .i64 t.2.1) ∧ W.cell? ⟨g.1, 2, none⟩ = some (.int .i64 t.2.2.1) ∧ W.cell? ⟨g.1, 3, none⟩ = some (.int .i64 t.2.2.2) ∧ PK W) := Lib.hid (fun W hW => by
                rcases hLL W hW with he | ⟨-, h2⟩
                · have := rows4_length Q; rw [he] at this; simp at this; omega
                · obtain ⟨c1, c2, -⟩ := HCq.out W hW
                  obtain ⟨r1, r2, r3, r4, r5⟩ := row_cells ht h2 hg
                  exact ⟨c1, c2, r1, r2, r3, r4, r5, hW⟩)
              have HCC : Hid (∀ W, (W.cell? ⟨bq, 0, none⟩ = some (.int .i64 mq) ∧ W.cell? ⟨bq, 1, none⟩ = some (.string Tq) ∧ W.cell? ⟨bl, kk, none⟩ = some (.slice (some ⟨g.1, 0, none⟩) 4 g.2) ∧ W.cell? ⟨g.1, 0, none⟩ = some (.int .i64 t.1) ∧ W.cell? ⟨g.1, 1, none⟩ = some (.int .i64 t.2.1) ∧ W.cell? ⟨g.1, 2, none⟩ = some (.int .i64 t.2.2.1) ∧ W.cell? ⟨g.1, 3, none⟩ = some (.int .i64 t.2.2.2) ∧ PK W) → Calls Try.prog 12 #[sg mq Tq, .int .i64 t.1, .int .i64 t.2.1, .int .i64 t.2.2.1, .int .i64 t.2.2.2] W fun e w' => e = .returned (.int .i64 (-1)) ∧ w'.cell? ⟨bq, 0, none⟩ = some (.int .i64 mq) ∧ w'.cell? ⟨bq, 1, none⟩ = some (.string Tq) ∧ w'.cell? ⟨bl, kk, none⟩ = some (.slice (some ⟨g.1, 0, none⟩) 4 g.2) ∧ w'.cell? ⟨g.1, 0, none⟩ = some (.int .i64 t.1) ∧ w'.cell? ⟨g.1, 1, none⟩ = some (.int .i64 t.2.1) ∧ w'.cell? ⟨g.1, 2, none⟩ = some (.int .i64 t.2.2.1) ∧ w'.cell? ⟨g.1, 3, none⟩ = some (.int .i64 t.2.2.2) ∧ PK w') := Lib.hid (fun W hW => (HIQ.out t hsm W).mono fun e w' ⟨he, hb⟩ => ⟨by rw [he, hin], HRC.out _ (HON.out _ _ hW.2.2.2.2.2.2.2 hb)⟩)
              have i1 : (0 : Int) ≤ (kk : Int) ∧ (kk : Int) < (Q.length : Int) := by omega
              obtain ⟨x0, x1, x2, x3, x4, x5, x6, x7⟩ := HRC.out _ K20.out
              clear hin hsm hg ht hmem hLL
              go_upto_region 22 with fail
              go_cut [255] (fun cv wx => cv = .bool false ∧ Hid (PK wx))
              case first =>
                as_aux_lemma =>
                refine wp_region_held (S := fun W => W.cell? ⟨bq, 0, none⟩ = some (.int .i64 mq) ∧ W.cell? ⟨bq, 1, none⟩ = some (.string Tq) ∧ W.cell? ⟨bl, kk, none⟩ = some (.slice (some ⟨g.1, 0, none⟩) 4 g.2) ∧ W.cell? ⟨g.1, 0, none⟩ = some (.int .i64 t.1) ∧ W.cell? ⟨g.1, 1, none⟩ = some (.int .i64 t.2.1) ∧ W.cell? ⟨g.1, 2, none⟩ = some (.int .i64 t.2.2.1) ∧ W.cell? ⟨g.1, 3, none⟩ = some (.int .i64 t.2.2.2) ∧ PK W) rfl ?_
                have hHeld := (HRC.out _ (HDR.out _ K20.out))
                (refine Held.takeH (i := 0) (k := 229) (v := ?_) rfl (by as_aux_lemma => kernel_rfl) (by as_aux_lemma => kernel_rfl) (by as_aux_lemma => kernel_rfl) (by as_aux_lemma => kernel_rfl) (fun _ _ _ h => h) (Or.inl ⟨by rfl, ?_⟩) (by assumption) ?_; rotate_left; (focus (intro w hSw; (try dsimp only at hSw); go_simp; (try with_reducible rfl))); (simp only [List.setIfInBounds_toArray, List.set_cons_zero, List.set_cons_succ]))
                (refine Held.takeH (i := 1) (k := 230) (v := ?_) rfl (by as_aux_lemma => kernel_rfl) (by as_aux_lemma => kernel_rfl) (by as_aux_lemma => kernel_rfl) (by as_aux_lemma => kernel_rfl) (fun _ _ _ h => h) (Or.inl ⟨by rfl, ?_⟩) (by assumption) ?_; rotate_left; (focus (intro w hSw; (try dsimp only at hSw); go_simp; (try with_reducible rfl))); (simp only [List.setIfInBounds_toArray, List.set_cons_zero, List.set_cons_succ]))
                (refine Held.takeH (i := 2) (k := 231) (v := ?_) rfl (by as_aux_lemma => kernel_rfl) (by as_aux_lemma => kernel_rfl) (by as_aux_lemma => kernel_rfl) (by as_aux_lemma => kernel_rfl) (fun _ _ _ h => h) (Or.inl ⟨by rfl, ?_⟩) (by assumption) ?_; rotate_left; (focus (intro w hSw; (try dsimp only at hSw); go_simp; (try with_reducible rfl))); (simp only [List.setIfInBounds_toArray, List.set_cons_zero, List.set_cons_succ]))
                (refine Held.takeH (i := 3) (k := 232) (v := ?_) rfl (by as_aux_lemma => kernel_rfl) (by as_aux_lemma => kernel_rfl) (by as_aux_lemma => kernel_rfl) (by as_aux_lemma => kernel_rfl) (fun _ _ _ h => h) (Or.inl ⟨by rfl, ?_⟩) (by assumption) ?_; rotate_left; (focus (intro w hSw; (try dsimp only at hSw); go_simp; (try with_reducible rfl))); (simp only [List.setIfInBounds_toArray, List.set_cons_zero, List.set_cons_succ]))
                (refine Held.takeH (i := 4) (k := 233) (v := ?_) rfl (by as_aux_lemma => kernel_rfl) (by as_aux_lemma => kernel_rfl) (by as_aux_lemma => kernel_rfl) (by as_aux_lemma => kernel_rfl) (fun _ _ _ h => h) (Or.inl ⟨by rfl, ?_⟩) (by assumption) ?_; rotate_left; (focus (intro w hSw; (try dsimp only at hSw); go_simp; (try with_reducible rfl))); (simp only [List.setIfInBounds_toArray, List.set_cons_zero, List.set_cons_succ]))
                (refine Held.takeH (i := 5) (k := 234) (v := ?_) rfl (by as_aux_lemma => kernel_rfl) (by as_aux_lemma => kernel_rfl) (by as_aux_lemma => kernel_rfl) (by as_aux_lemma => kernel_rfl) (fun _ _ _ h => h) (Or.inl ⟨by rfl, ?_⟩) (by assumption) ?_; rotate_left; (focus (intro w hSw; (try dsimp only at hSw); go_simp; (try with_reducible rfl))); (simp only [List.setIfInBounds_toArray, List.set_cons_zero, List.set_cons_succ]))
                (refine Held.takeH (i := 6) (k := 235) (v := ?_) rfl (by as_aux_lemma => kernel_rfl) (by as_aux_lemma => kernel_rfl) (by as_aux_lemma => kernel_rfl) (by as_aux_lemma => kernel_rfl) (fun _ _ _ h => h) (Or.inl ⟨by rfl, ?_⟩) (by assumption) ?_; rotate_left; (focus (intro w hSw; (try dsimp only at hSw); go_simp; (try with_reducible rfl))); (simp only [List.setIfInBounds_toArray, List.set_cons_zero, List.set_cons_succ]))
                (refine Held.takeH (i := 7) (k := 236) (v := ?_) rfl (by as_aux_lemma => kernel_rfl) (by as_aux_lemma => kernel_rfl) (by as_aux_lemma => kernel_rfl) (by as_aux_lemma => kernel_rfl) (fun _ _ _ h => h) (Or.inl ⟨by rfl, ?_⟩) (by assumption) ?_; rotate_left; (focus (intro w hSw; (try dsimp only at hSw); go_simp; (try with_reducible rfl))); (simp only [List.setIfInBounds_toArray, List.set_cons_zero, List.set_cons_succ]))
                (refine Held.takeH (i := 8) (k := 237) (v := ?_) rfl (by as_aux_lemma => kernel_rfl) (by as_aux_lemma => kernel_rfl) (by as_aux_lemma => kernel_rfl) (by as_aux_lemma => kernel_rfl) (fun _ _ _ h => h) (Or.inl ⟨by rfl, ?_⟩) (by assumption) ?_; rotate_left; (focus (intro w hSw; (try dsimp only at hSw); go_simp; (try with_reducible rfl))); (simp only [List.setIfInBounds_toArray, List.set_cons_zero, List.set_cons_succ]))
                (refine Held.takeH (i := 9) (k := 238) (v := ?_) rfl (by as_aux_lemma => kernel_rfl) (by as_aux_lemma => kernel_rfl) (by as_aux_lemma => kernel_rfl) (by as_aux_lemma => kernel_rfl) (fun _ _ _ h => h) (Or.inl ⟨by rfl, ?_⟩) (by assumption) ?_; rotate_left; (focus (intro w hSw; (try dsimp only at hSw); go_simp; (try with_reducible rfl))); (simp only [List.setIfInBounds_toArray, List.set_cons_zero, List.set_cons_succ]))
                (refine Held.takeH (i := 10) (k := 239) (v := ?_) rfl (by as_aux_lemma => kernel_rfl) (by as_aux_lemma => kernel_rfl) (by as_aux_lemma => kernel_rfl) (by as_aux_lemma => kernel_rfl) (fun _ _ _ h => h) (Or.inl ⟨by rfl, ?_⟩) (by assumption) ?_; rotate_left; (focus (intro w hSw; (try dsimp only at hSw); go_simp; (try with_reducible rfl))); (simp only [List.setIfInBounds_toArray, List.set_cons_zero, List.set_cons_succ]))
                (refine Held.takeH (i := 11) (k := 240) (v := ?_) rfl (by as_aux_lemma => kernel_rfl) (by as_aux_lemma => kernel_rfl) (by as_aux_lemma => kernel_rfl) (by as_aux_lemma => kernel_rfl) (fun _ _ _ h => h) (Or.inl ⟨by rfl, ?_⟩) (by assumption) ?_; rotate_left; (focus (intro w hSw; (try dsimp only at hSw); go_simp; (try with_reducible rfl))); (simp only [List.setIfInBounds_toArray, List.set_cons_zero, List.set_cons_succ]))
                (refine Held.takeH (i := 12) (k := 241) (v := ?_) rfl (by as_aux_lemma => kernel_rfl) (by as_aux_lemma => kernel_rfl) (by as_aux_lemma => kernel_rfl) (by as_aux_lemma => kernel_rfl) (fun _ _ _ h => h) (Or.inl ⟨by rfl, ?_⟩) (by assumption) ?_; rotate_left; (focus (intro w hSw; (try dsimp only at hSw); go_simp; (try with_reducible rfl))); (simp only [List.setIfInBounds_toArray, List.set_cons_zero, List.set_cons_succ]))
                (refine Held.takeH (i := 13) (k := 242) (v := ?_) rfl (by as_aux_lemma => kernel_rfl) (by as_aux_lemma => kernel_rfl) (by as_aux_lemma => kernel_rfl) (by as_aux_lemma => kernel_rfl) (fun _ _ _ h => h) (Or.inl ⟨by rfl, ?_⟩) (by assumption) ?_; rotate_left; (focus (intro w hSw; (try dsimp only at hSw); go_simp; (try with_reducible rfl))); (simp only [List.setIfInBounds_toArray, List.set_cons_zero, List.set_cons_succ]))
                (refine Held.takeH (i := 14) (k := 243) (v := ?_) rfl (by as_aux_lemma => kernel_rfl) (by as_aux_lemma => kernel_rfl) (by as_aux_lemma => kernel_rfl) (by as_aux_lemma => kernel_rfl) (fun _ _ _ h => h) (Or.inl ⟨by rfl, ?_⟩) (by assumption) ?_; rotate_left; (focus (intro w hSw; (try dsimp only at hSw); go_simp; (try with_reducible rfl))); (simp only [List.setIfInBounds_toArray, List.set_cons_zero, List.set_cons_succ]))
                (refine Held.takeH (i := 15) (k := 244) (v := ?_) rfl (by as_aux_lemma => kernel_rfl) (by as_aux_lemma => kernel_rfl) (by as_aux_lemma => kernel_rfl) (by as_aux_lemma => kernel_rfl) (fun _ _ _ h => h) (Or.inl ⟨by rfl, ?_⟩) (by assumption) ?_; rotate_left; (focus (intro w hSw; (try dsimp only at hSw); go_simp; (try with_reducible rfl))); (simp only [List.setIfInBounds_toArray, List.set_cons_zero, List.set_cons_succ]))
                (refine Held.takeH (i := 16) (k := 245) (v := ?_) rfl (by as_aux_lemma => kernel_rfl) (by as_aux_lemma => kernel_rfl) (by as_aux_lemma => kernel_rfl) (by as_aux_lemma => kernel_rfl) (fun _ _ _ h => h) (Or.inl ⟨by rfl, ?_⟩) (by assumption) ?_; rotate_left; (focus (intro w hSw; (try dsimp only at hSw); go_simp; (try with_reducible rfl))); (simp only [List.setIfInBounds_toArray, List.set_cons_zero, List.set_cons_succ]))
                (refine Held.takeH (i := 17) (k := 246) (v := ?_) rfl (by as_aux_lemma => kernel_rfl) (by as_aux_lemma => kernel_rfl) (by as_aux_lemma => kernel_rfl) (by as_aux_lemma => kernel_rfl) (fun _ _ _ h => h) (Or.inl ⟨by rfl, ?_⟩) (by assumption) ?_; rotate_left; (focus (intro w hSw; (try dsimp only at hSw); go_simp; (try with_reducible rfl))); (simp only [List.setIfInBounds_toArray, List.set_cons_zero, List.set_cons_succ]))
                (refine Held.takeH (i := 18) (k := 247) (v := ?_) rfl (by as_aux_lemma => kernel_rfl) (by as_aux_lemma => kernel_rfl) (by as_aux_lemma => kernel_rfl) (by as_aux_lemma => kernel_rfl) (fun _ _ _ h => h) (Or.inl ⟨by rfl, ?_⟩) (by assumption) ?_; rotate_left; (focus (intro w hSw; (try dsimp only at hSw); go_simp; (try with_reducible rfl))); (simp only [List.setIfInBounds_toArray, List.set_cons_zero, List.set_cons_succ]))
                (refine Held.takeH (i := 19) (k := 248) (v := ?_) rfl (by as_aux_lemma => kernel_rfl) (by as_aux_lemma => kernel_rfl) (by as_aux_lemma => kernel_rfl) (by as_aux_lemma => kernel_rfl) (fun _ _ _ h => h) (Or.inl ⟨by rfl, ?_⟩) (by assumption) ?_; rotate_left; (focus (intro w hSw; (try dsimp only at hSw); go_simp; (try with_reducible rfl))); (simp only [List.setIfInBounds_toArray, List.set_cons_zero, List.set_cons_succ]))
                (refine Held.takeH (i := 20) (k := 249) (v := ?_) rfl (by as_aux_lemma => kernel_rfl) (by as_aux_lemma => kernel_rfl) (by as_aux_lemma => kernel_rfl) (by as_aux_lemma => kernel_rfl) (fun _ _ _ h => h) (Or.inl ⟨by rfl, ?_⟩) (by assumption) ?_; rotate_left; (focus (intro w hSw; (try dsimp only at hSw); go_simp; (try with_reducible rfl))); (simp only [List.setIfInBounds_toArray, List.set_cons_zero, List.set_cons_succ]))
                (refine Held.takeH (i := 21) (k := 250) (v := ?_) rfl (by as_aux_lemma => kernel_rfl) (by as_aux_lemma => kernel_rfl) (by as_aux_lemma => kernel_rfl) (by as_aux_lemma => kernel_rfl) (fun _ _ _ h => h) (Or.inl ⟨by rfl, ?_⟩) (by assumption) ?_; rotate_left; (focus (intro w hSw; (try dsimp only at hSw); go_simp; (try with_reducible rfl))); (simp only [List.setIfInBounds_toArray, List.set_cons_zero, List.set_cons_succ]))
                (refine Held.takeH (i := 22) (k := 251) (v := ?_) rfl (by as_aux_lemma => kernel_rfl) (by as_aux_lemma => kernel_rfl) (by as_aux_lemma => kernel_rfl) (by as_aux_lemma => kernel_rfl) (fun _ _ _ h => h) (Or.inl ⟨by rfl, ?_⟩) (by assumption) ?_; rotate_left; (focus (intro w hSw; (try dsimp only at hSw); go_simp; (try with_reducible rfl))); (simp only [List.setIfInBounds_toArray, List.set_cons_zero, List.set_cons_succ]))
                (refine Held.takeH (i := 23) (k := 252) (v := ?_) rfl (by as_aux_lemma => kernel_rfl) (by as_aux_lemma => kernel_rfl) (by as_aux_lemma => kernel_rfl) (by as_aux_lemma => kernel_rfl) (fun _ _ _ h => h) (Or.inl ⟨by rfl, ?_⟩) (by assumption) ?_; rotate_left; (focus (intro w hSw; (try dsimp only at hSw); go_simp; (try with_reducible rfl))); (simp only [List.setIfInBounds_toArray, List.set_cons_zero, List.set_cons_succ]))
                (refine Held.takeH (i := 24) (k := 253) (v := ?_) rfl (by as_aux_lemma => kernel_rfl) (by as_aux_lemma => kernel_rfl) (by as_aux_lemma => kernel_rfl) (by as_aux_lemma => kernel_rfl) (fun _ _ _ h => h) (Or.inl ⟨by rfl, ?_⟩) (by assumption) ?_; rotate_left; (focus (intro w hSw; (try dsimp only at hSw); go_simp; (try with_reducible rfl))); (simp only [List.setIfInBounds_toArray, List.set_cons_zero, List.set_cons_succ]))
                refine wpAnyH_ready (rs := [25]) (by as_aux_lemma => kernel_rfl) (by simp) ?_
                refine AllReadyH.cons rfl (fun K hK => ?_) AllReadyH.nil
                go_simp
                refine (HCC.out _ hHeld).mono ?_
                rintro e' w' ⟨rfl, hS'⟩
                refine hK.out _ _ hS' (fun hHeld => ?_)
                clear hK K
                try simp only [Act.put, List.setIfInBounds_toArray, List.set_cons_zero, List.set_cons_succ]
                (refine Held.takeH (i := 26) (k := 255) (v := .bool false) rfl (by as_aux_lemma => kernel_rfl) (by as_aux_lemma => kernel_rfl) (by as_aux_lemma => kernel_rfl) (by as_aux_lemma => kernel_rfl) (fun _ _ _ h => h) (Or.inl ⟨by rfl, ?_⟩) (by assumption) ?_; (focus (intro w hSw; (try dsimp only at hSw); go_simp; (try rfl))); (simp only [List.setIfInBounds_toArray, List.set_cons_zero, List.set_cons_succ]))
                refine wpAnyH_done (by as_aux_lemma => kernel_rfl) ?_ _
                go_wp2_with fail
                go_meet
                exact ⟨rfl, Lib.hid hHeld.2.2.2.2.2.2.2⟩
              case rest =>
                obtain ⟨rfl, K22⟩ := hcut
                clear HRC HCC x0 x1 x2 x3 x4 x5 x6 x7 K20
                go_wp2
                exact ⟨⟨kk + 1, by omega, by go_num, K22⟩, by simp only [intOf]; omega⟩
            · -- the end
              obtain rfl : kk = Q.length := by omega
              obtain ⟨x0, x1, -⟩ := HCt.out _ K20.out
              cases hib : ib
              · subst hib
                clear HIF
                go_wp2_with fail
                refine (HIN1.out _ K20.out).mono ?_
                rintro e w25 ⟨rfl, hk25⟩
                have K25 := Lib.hid hk25
                clear hk25 x0 x1
                go_wp2
                go_ret
                exact ⟨rfl, HBE.out _ K25.out⟩
              · obtain ⟨f1, f2⟩ := HIF.out hib
                subst hib
                rw [f1] at HIN2
                generalize insN mt Tt.data.toList i j k = iw at f2 HIN3
                clear f1 HIF
                go_wp2_with fail
                refine (HIN1.out _ K20.out).mono ?_
                rintro e w25 ⟨rfl, hk25⟩
                have K25 := Lib.hid hk25
                clear hk25 x0 x1
                obtain ⟨x0, x1, -⟩ := HCt.out _ K25.out
                go_wp2_with fail
                refine (HIN2.out _ K25.out).mono ?_
                rintro e w26 ⟨rfl, hk26⟩
                have K26 := Lib.hid hk26
                clear hk26 x0 x1
                obtain ⟨x0, x1, -⟩ := HCt.out _ K26.out
                go_wp2_with fail
                refine (HIN3.out _ K26.out).mono ?_
                rintro e w27 ⟨rfl, hk27⟩
                have K27 := Lib.hid hk27
                clear hk27 x0 x1
                go_wp2
                go_ret
                exact ⟨rfl, HBE.out _ K27.out⟩
end Go.Proofs.Ytfjimdmoindepaa.Sg
