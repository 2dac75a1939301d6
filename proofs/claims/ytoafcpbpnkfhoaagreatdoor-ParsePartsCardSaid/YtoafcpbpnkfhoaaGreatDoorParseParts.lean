/-
  Proved: the statement 'ParsePartsCardSaid' of the seat: for every input that law returns true, and each argument reads afterwards as it read before; the three package variables that its row lists are tied to the program's text. No condition of ours.
-/
import Derived.Test.YtoafcpbpnkfhoaaGreatDoorRows
import Derived.Test.YtoafcpbpnkfhoaaGreatDoorTie
import Derived.Test.YtoafcpbpnkfhoaaGreatDoorCards
import Derived.Test.YtoafcpbpnkfhoaaGreatDoorLexR
import Derived.ChangeMaps5
import Derived.Test.YtoafcpbpnkfhoaaGreatDoorPrsW
import Derived.Test.YtoafcpbpnkfhoaaGreatDoorParR
import Derived.Test.YtoafcpbpnkfhoaaGreatDoorParS
import Derived.OwnWalk
import Derived.StillTailTactics
import Derived.Deep.RegionHeld3
namespace Go.Proofs.YtoafcpbpnkfhoaaGreatDoor.parseParts
open Go.RowKit Go.ChangeShapes Go.WideShapes Go.ChangeAt
open Go.ChangeMaps (open_string shut_string)
open Lex (Laid lst)
open Lex Prs
theorem lst_size (a : ByteArray) : (lst a).length = a.size := lst_length a
theorem wrapS (n : Int) (h : -1000000 ≤ n ∧ n ≤ 1000000) : IntKind.i64.wrap n = n := by simp [IntKind.wrap, IntKind.bits, IntKind.signed]; omega
theorem size_mk (a : Array UInt8) : (⟨a⟩ : ByteArray).size = a.size := rfl
theorem size_app (a b : ByteArray) : (a ++ b).size = a.size + b.size := by rw [← lst_size, ← lst_size, ← lst_size, lst_app, List.length_append]
/-- A loop's counter. -/
structure LpAt (N k : Nat) (i : Value) (n : Nat) : Prop where
  hk : k = N - n
  hi : i = .int .i64 n
  hn : n ≤ N
/-- The text so far. -/
structure SrcAt (W : List Wd) (b : Nat) (s : Value) (S : ByteArray) : Prop where
  hs : s = .string S
  hS : lst S = textW W
  sz : S.size ≤ b
/-- A sum of two short texts, in any world. -/
theorem add_dB (c : UInt8) (n : Nat) (u : World) : (Op.stringOp .add ⟨#[c]⟩ (dB n)).run Tryz.prog u = .ok (.string (⟨#[c]⟩ ++ dB n)) u :=
  run_string_add_sum u _ _ (by have := dB_size n; have h1 : (⟨#[c]⟩ : ByteArray).size = 1 := rfl; omega)
set_option maxHeartbeats 4000000 in
set_option maxRecDepth 100000 in
theorem walk (a0 : Int) (w0 : (Lit.int .u8 a0).wf = true) (a1 : Int) (w1 : (Lit.int .u8 a1).wf = true) (a2 : Int) (w2 : (Lit.int .u8 a2).wf = true) (a3 : Int) (w3 : (Lit.int .u8 a3).wf = true) (a4 : Int) (w4 : (Lit.int .u8 a4).wf = true) (w : World) (pL pW : Addr) (hL : Laid w pL pW) : Calls Tryz.prog 3 #[.int .u8 a0, .int .u8 a1, .int .u8 a2, .int .u8 a3, .int .u8 a4] w fun e w' => e = .returned (.bool true) ∧ Hid (Kept w w') := by
  have HL := Lib.hid hL
  have HA : Hid (∀ w1, Kept w w1 → Calls Tryz.prog 7 #[] w1 fun e w' => e = .returned (.bool true) ∧ Hid (Kept w1 w')) := Lib.hid fun w1 h => Prs.awake_any w1 pL pW (HL.out.kept h)
  clear hL
  have hw0 : 0 ≤ a0 ∧ a0 ≤ 255 := by simpa [Lit.wf, IntKind.min, IntKind.max, IntKind.signed, IntKind.bits] using w0
  have hw1 : 0 ≤ a1 ∧ a1 ≤ 255 := by simpa [Lit.wf, IntKind.min, IntKind.max, IntKind.signed, IntKind.bits] using w1
  have hw2 : 0 ≤ a2 ∧ a2 ≤ 255 := by simpa [Lit.wf, IntKind.min, IntKind.max, IntKind.signed, IntKind.bits] using w2
  have hw3 : 0 ≤ a3 ∧ a3 ≤ 255 := by simpa [Lit.wf, IntKind.min, IntKind.max, IntKind.signed, IntKind.bits] using w3
  have hw4 : 0 ≤ a4 ∧ a4 ≤ 255 := by simpa [Lit.wf, IntKind.min, IntKind.max, IntKind.signed, IntKind.bits] using w4
  clear w0 w1 w2 w3 w4
  obtain ⟨h00, h01⟩ := hw0
  obtain ⟨h10, h11⟩ := hw1
  obtain ⟨h20, h21⟩ := hw2
  obtain ⟨h30, h31⟩ := hw3
  obtain ⟨h40, h41⟩ := hw4
  obtain ⟨G, hG, eG⟩ : ∃ G : Nat, G < 6 ∧ a0 % 6 = (G : Int) := ⟨(a0 % 6).toNat, by omega, by omega⟩
  obtain ⟨F, hF, eF⟩ : ∃ G : Nat, G < 4 ∧ a1 % 4 = (G : Int) := ⟨(a1 % 4).toNat, by omega, by omega⟩
  obtain ⟨P, hP, eP⟩ : ∃ G : Nat, G < 4 ∧ a2 % 4 = (G : Int) := ⟨(a2 % 4).toNat, by omega, by omega⟩
  obtain ⟨C, hC, eC⟩ : ∃ G : Nat, G < 4 ∧ a3 % 4 = (G : Int) := ⟨(a3 % 4).toNat, by omega, by omega⟩
  obtain ⟨Z, hZ, eZ⟩ : ∃ G : Nat, G < 9 ∧ a4 % 9 = (G : Int) := ⟨(a4 % 9).toNat, by omega, by omega⟩
  go_enter Tryz.func3, Tryz.ntmps3
  go_wp2_with fail
  go_loopg [11, 12] G (fun k s i wx => (∃ n S, LpAt G k i n ∧ SrcAt (rowW glW n) (30 * n) s S) ∧ Kept w wx)
  case atStart => exact ⟨⟨0, ⟨#[]⟩, ⟨rfl, rfl, Nat.zero_le _⟩, rfl, rfl, Nat.le_refl 0⟩, Kept.refl w⟩
  case round =>
    obtain ⟨⟨n, S, ⟨hk1, hi1, hn1⟩, hs1, hS, sS⟩, hW⟩ := hrel
    subst hi1 hs1
    have HS := Lib.hid hS
    have HW := Lib.hid hW
    have Hk1 := Lib.hid hk1
    clear hS hW hk1
    by_cases hlt : n < G
    case pos =>
      have hD := dB_size n
      have HD := Lib.hid (fun wx => Digits_small (n := n) (by omega) wx)
      go_wp2_with fail
      refine (HD.out _).mono ?_
      rintro e x1 ⟨rfl, K1⟩
      go_wp2_with fail
      refine (HD.out _).mono ?_
      rintro e x2 ⟨rfl, K2⟩
      go_wp2_with fail
      go_roundg (G - (n + 1))
      case measure => have := Hk1.out; omega
      case rel =>
        refine ⟨⟨n + 1, _, ⟨rfl, by simp, by omega⟩, rfl, ?_, ?_⟩, (HW.out.trans K1.out).trans K2.out⟩
        · simp only [lst_app, HS.out, lst_dB, rowW_succ, textW_app]
          simp [textW, glW, lst]
        · simp only [size_app, size_mk, List.size_toArray, List.length_cons, List.length_nil]; omega
    case neg =>
      obtain rfl : n = G := by omega
      go_wp2_with fail
      try rw [eG]
      go_loopg [11, 13] F (fun k s i wx => (∃ m S, LpAt F k i m ∧ SrcAt (rowW glW n ++ rowW (fnW P C Z) m) (180 + 300 * m) s S) ∧ Kept w wx)
      case atStart => exact ⟨⟨0, S, ⟨rfl, rfl, Nat.zero_le _⟩, rfl, by rw [HS.out]; simp [rowW], by omega⟩, HW.out⟩
      case round =>
        obtain ⟨⟨m, S2, ⟨hk2, hi2, hn2⟩, hs2, hS2, sS2⟩, hW2⟩ := hrel
        subst hi2 hs2
        clear HS sS
        have HS := Lib.hid hS2
        have HW := Lib.hid hW2
        have Hk2 := Lib.hid hk2
        clear hS2 hW2 hk2
        by_cases hlt2 : m < F
        case pos =>
          have hD := dB_size m
          have HD := Lib.hid (fun wx => Digits_small (n := m) (by omega) wx)
          go_wp2_with fail
          refine (HD.out _).mono ?_
          rintro e x1 ⟨rfl, K1⟩
          go_wp2_with fail
          go_loopg [11, 14] P (fun k s i wx => (∃ j S, LpAt P k i j ∧ SrcAt (rowW glW n ++ rowW (fnW P C Z) m ++ [(3, [102, 110]), (1, [102, dg m]), (4, [40])] ++ rowW pmW j) (200 + 300 * m + 12 * j) s S) ∧ Kept w wx)
          case atStart =>
            refine ⟨⟨0, _, ⟨rfl, rfl, Nat.zero_le _⟩, rfl, ?_, ?_⟩, HW.out.trans K1.out⟩
            · simp only [lst_app, HS.out, lst_dB, textW_app]
              simp [textW, rowW, lst]
            · simp only [size_app, size_mk, List.size_toArray, List.length_cons, List.length_nil]; omega
          case round =>
            obtain ⟨⟨j, S3, ⟨hk3, hi3, hn3⟩, hs3, hS3, sS3⟩, hW3⟩ := hrel
            subst hi3 hs3
            clear HS sS2 HD hD
            have HS := Lib.hid hS3
            have HW := Lib.hid hW3
            have Hk3 := Lib.hid hk3
            clear hS3 hW3 hk3
            by_cases hlt3 : j < P
            case pos =>
              have hD := dB_size j
              have HD := Lib.hid (fun wx => Digits_small (n := j) (by omega) wx)
              by_cases h0 : j = 0
              case pos =>
                have b1 : decide ((0 : Int) < (j : Int)) = false := by simp; omega
                have b2 : decide (0 < j) = false := by simp; omega
                have H0 := Lib.hid h0
                clear h0
                go_wp2_with fail
                refine (HD.out _).mono ?_
                rintro e x2 ⟨rfl, K2⟩
                go_wp2_with fail
                go_roundg (P - (j + 1))
                case measure => have := Hk3.out; omega
                case rel =>
                  refine ⟨⟨j + 1, _, ⟨rfl, by simp, by omega⟩, rfl, ?_, ?_⟩, HW.out.trans K2.out⟩
                  · simp only [lst_app, HS.out, lst_dB, rowW_succ, textW_app]
                    simp [textW, pmW, lst, H0.out]
                  · simp only [size_app, size_mk, List.size_toArray, List.length_cons, List.length_nil]; omega
              case neg =>
                have b1 : decide ((0 : Int) < (j : Int)) = true := by simp; omega
                have b2 : decide (0 < j) = true := by simp; omega
                have H0 := Lib.hid h0
                clear h0
                go_wp2_with fail
                refine (HD.out _).mono ?_
                rintro e x2 ⟨rfl, K2⟩
                go_wp2_with fail
                go_roundg (P - (j + 1))
                case measure => have := Hk3.out; omega
                case rel =>
                  refine ⟨⟨j + 1, _, ⟨rfl, by simp, by omega⟩, rfl, ?_, ?_⟩, HW.out.trans K2.out⟩
                  · simp only [lst_app, HS.out, lst_dB, rowW_succ, textW_app]
                    simp [textW, pmW, lst, H0.out]
                  · simp only [size_app, size_mk, List.size_toArray, List.length_cons, List.length_nil]; omega
            case neg =>
              obtain rfl : j = P := by omega
              go_wp2_with fail
              try rw [eP]
              go_loopg [11, 15] C (fun k s i wx => (∃ q S, LpAt C k i q ∧ SrcAt (rowW glW n ++ rowW (fnW j C Z) m ++ [(3, [102, 110]), (1, [102, dg m]), (4, [40])] ++ rowW pmW j ++ [(4, [41]), (4, [58]), (3, [117, 49, 54])] ++ rowW clW q) (250 + 300 * m + 36 * q) s S) ∧ Kept w wx)
              case atStart =>
                refine ⟨⟨0, _, ⟨rfl, rfl, Nat.zero_le _⟩, rfl, ?_, ?_⟩, HW.out⟩
                · simp only [lst_app, HS.out, textW_app]
                  simp [textW, rowW, lst]
                · simp only [size_app, size_mk, List.size_toArray, List.length_cons, List.length_nil]; omega
              case round =>
                obtain ⟨⟨q, S4, ⟨hk4, hi4, hn4⟩, hs4, hS4, sS4⟩, hW4⟩ := hrel
                subst hi4 hs4
                clear HS sS3
                have HS := Lib.hid hS4
                have HW := Lib.hid hW4
                have Hk4 := Lib.hid hk4
                clear hS4 hW4 hk4
                by_cases hlt4 : q < C
                case pos =>
                  have hD := dB_size q
                  have HD := Lib.hid (fun wx => Digits_small (n := q) (by omega) wx)
                  go_wp2_with fail
                  refine (HD.out _).mono ?_
                  rintro e x2 ⟨rfl, K2⟩
                  go_wp2_with fail
                  refine (HD.out _).mono ?_
                  rintro e x3 ⟨rfl, K3⟩
                  go_wp2_with fail
                  go_roundg (C - (q + 1))
                  case measure => have := Hk4.out; omega
                  case rel =>
                    refine ⟨⟨q + 1, _, ⟨rfl, by simp, by omega⟩, rfl, ?_, ?_⟩, (HW.out.trans K2.out).trans K3.out⟩
                    · simp only [lst_app, HS.out, lst_dB, rowW_succ, textW_app]
                      simp [textW, clW, lst]
                    · simp only [size_app, size_mk, List.size_toArray, List.length_cons, List.length_nil]; omega
                case neg =>
                  obtain rfl : q = C := by omega
                  go_wp2_with fail
                  try rw [eC]
                  go_loopg [11, 16] Z (fun k s i wx => (∃ u S, LpAt Z k i u ∧ SrcAt (rowW glW n ++ rowW (fnW j q Z) m ++ [(3, [102, 110]), (1, [102, dg m]), (4, [40])] ++ rowW pmW j ++ [(4, [41]), (4, [58]), (3, [117, 49, 54])] ++ rowW clW q ++ [(4, [123])] ++ rowW stW u) (370 + 300 * m + 12 * u) s S) ∧ Kept w wx)
                  case atStart =>
                    refine ⟨⟨0, _, ⟨rfl, rfl, Nat.zero_le _⟩, rfl, ?_, ?_⟩, HW.out⟩
                    · simp only [lst_app, HS.out, textW_app]
                      simp [textW, rowW, lst]
                    · simp only [size_app, size_mk, List.size_toArray, List.length_cons, List.length_nil]; omega
                  case round =>
                    obtain ⟨⟨u, S5, ⟨hk5, hi5, hn5⟩, hs5, hS5, sS5⟩, hW5⟩ := hrel
                    subst hi5 hs5
                    clear HS sS4
                    have HS := Lib.hid hS5
                    have HW := Lib.hid hW5
                    have Hk5 := Lib.hid hk5
                    clear hS5 hW5 hk5
                    by_cases hlt5 : u < Z
                    case pos =>
                      have h3 : u % 3 = 0 ∨ u % 3 = 1 ∨ u % 3 = 2 := by omega
                      rcases h3 with h3 | h3 | h3
                      all_goals
                        have H3 := Lib.hid h3
                        first
                          | have e3 : (u : Int) % 3 = 0 := by omega
                          | have e3 : (u : Int) % 3 = 1 := by omega
                          | have e3 : (u : Int) % 3 = 2 := by omega
                        clear h3
                        go_wp2_with fail
                        go_roundg (Z - (u + 1))
                        case measure => have := Hk5.out; omega
                        case rel =>
                          refine ⟨⟨u + 1, _, ⟨rfl, by simp, by omega⟩, rfl, ?_, ?_⟩, HW.out.alloc _⟩
                          · simp only [lst_app, HS.out, rowW_succ, textW_app]
                            simp [textW, stW, lst, H3.out]
                          · simp only [size_app, size_mk, List.size_toArray, List.length_cons, List.length_nil]; omega
                    case neg =>
                      obtain rfl : u = Z := by omega
                      go_wp2_with fail
                      go_roundg (F - (m + 1))
                      case measure => have := Hk2.out; omega
                      case rel =>
                        refine ⟨⟨m + 1, _, ⟨rfl, by simp, by omega⟩, rfl, ?_, ?_⟩, HW.out⟩
                        · simp only [lst_app, HS.out, rowW_succ, textW_app]
                          simp [textW, fnW, lst]
                        · simp only [size_app, size_mk, List.size_toArray, List.length_cons, List.length_nil]; omega
        case neg =>
          obtain rfl : m = F := by omega
          have hlen : (textW (rowW glW n ++ rowW (fnW P C Z) m)).length ≤ 8192 := by rw [← HS.out, lst_size]; omega
          have hlex := lexF_words _ (all_ok hG hF hP hC hZ) hlen
          rw [← HS.out] at hlex
          obtain ⟨kk, L, M, hLs, hMs, hprog⟩ := parts_prog (g := n) (f := m) hG hP hC hZ (endW (rowW glW n ++ rowW (fnW P C Z) m) 0)
          have HP : Hid (Calls Tryz.prog 5 #[.string S2] wr fun e w' => ∃ ag cg af cf, e = .returned (.tuple #[.agg #[.slice ag n cg, .slice af m cf], .int .i64 0, .int .i64 0]) ∧ Hid (Kept wr w' ∧ GlOwn w' wr.heap.size (.slice ag n cg) L ∧ FnOwn w' wr.heap.size (.slice af m cf) M)) :=
            Lib.hid ((Program_toks (functionG_said 30) wr pL pW (HL.out.kept HW.out) (by omega) hlex hprog rfl : Calls Tryz.prog 5 #[.string S2] wr (ProgOk wr L M)).mono fun e w' h => by
              obtain ⟨ag, cg, af, cf, he, h⟩ := h
              rw [hLs.len, hMs.len] at he h
              exact ⟨ag, cg, af, cf, he, h⟩)
          have HLs := Lib.hid hLs
          have HMs := Lib.hid hMs
          clear hlen hlex hprog hLs hMs HS
          go_upto_region 28 with (go_at_call 5; refine (HP.out).mono ?_; rintro e y ⟨ag, cg, af, cf, rfl, HY⟩)
          have hK : Kept w y := HW.out.trans HY.out.1
          go_wp2_with (go_at_call 6; refine (num_any _ _).mono ?_; rintro e w' ⟨rfl, rfl⟩)
          try rw [eF]
          try rw [eG]
          go_loopg [20] n (fun k i wx => (∃ i', LpAt n k i i') ∧ Kept y wx ∧ wx.heap[y.heap.size]? = some (.cells #[.slice ag n cg, .slice af m cf] 27 (0, 0)))
          case atStart => exact ⟨⟨0, rfl, rfl, Nat.zero_le _⟩, (Kept.refl y).alloc _, heap_alloc_new _ _⟩
          case round =>
            obtain ⟨⟨i, hk6, hi6, hn6⟩, hKy, hbx⟩ := hrel
            subst hi6
            have HKy := Lib.hid hKy
            have Hbx := Lib.hid hbx
            have Hk6 := Lib.hid hk6
            have c0 := box_cell hbx 0 _ rfl
            have hbl := box_lt hbx
            clear hKy hbx hk6
            by_cases hlt6 : i < n
            case pos =>
              obtain ⟨gg, cc, hv, hle, hmx, hgl, hcs⟩ := gl_cells HY.out.2.1 (by rw [HLs.out.len]; omega)
              injection hv with e1 e2 e3
              subst e1
              clear e2 e3
              have hi' : i < L.length := by rw [HLs.out.len]; exact hlt6
              obtain ⟨n0, n1⟩ := HLs.out.at_ i hi'
              obtain ⟨d0, d3⟩ := hcs i hi'
              rw [n0, dB_app] at d0
              rw [n1] at d3
              have x0 : wr.cell? ⟨gg, i * 5, none⟩ = some (.string (⟨#[103]⟩ ++ dB i)) := (Below.cell (p := ⟨gg, i * 5, none⟩) HKy.out hgl).trans d0
              have x3 : wr.cell? ⟨gg, i * 5 + 3, none⟩ = some (.int .i64 (-(i : Int))) := (Below.cell (p := ⟨gg, i * 5 + 3, none⟩) HKy.out hgl).trans d3
              have hg2 : gg < wr.heap.size := by have := HKy.out.size; omega
              have hD := dB_size i
              have HD := Lib.hid (fun wx => Digits_small (n := i) (by omega) wx)
              have hadd := fun u => add_dB 103 i u
              have v1 := wrapS (-(i : Int)) (by omega)
              have v2 := wrapS (i : Int) (by omega)
              clear n0 n1 d0 d3 hcs hi' hle hmx
              go_upto_region 33 with fail
              go_region_held3 (fun w' => w'.cell? ⟨y.heap.size, 0, none⟩ = some (.slice (some ⟨gg, 0, none⟩) n cg) ∧ w'.cell? ⟨gg, i * 5, none⟩ = some (.string (⟨#[103]⟩ ++ dB i)) ∧ w'.cell? ⟨gg, i * 5 + 3, none⟩ = some (.int .i64 (-(i : Int))))
                (first | go_keep | exact ⟨z0, z1, z2⟩)
                (first | (go_at_call 4; refine (HD.out _).mono ?_; rintro e x1 ⟨rfl, K1⟩; have z0 : x1.cell? ⟨y.heap.size, 0, none⟩ = some (.slice (some ⟨gg, 0, none⟩) n cg) := (Below.cell (p := ⟨y.heap.size, 0, none⟩) K1.out hbl).trans c0; have z1 : x1.cell? ⟨gg, i * 5, none⟩ = some (.string (⟨#[103]⟩ ++ dB i)) := (Below.cell (p := ⟨gg, i * 5, none⟩) K1.out hg2).trans x0; have z2 : x1.cell? ⟨gg, i * 5 + 3, none⟩ = some (.int .i64 (-(i : Int))) := (Below.cell (p := ⟨gg, i * 5 + 3, none⟩) K1.out hg2).trans x3))
              clear hadd
              go_wp2_with fail
              go_roundg (n - (i + 1))
              case measure => have := Hk6.out; omega
              case rel => exact ⟨⟨i + 1, rfl, by simp, by omega⟩, HKy.out.drew.trans K1.out, (Below.block K1.out _ hbl).trans Hbx.out⟩
            case neg =>
              obtain rfl : i = n := by omega
              go_wp2_with fail
              go_loopg [21] m (fun k t wx => (∃ i', LpAt m k t i') ∧ Kept y wx ∧ wx.heap[y.heap.size]? = some (.cells #[.slice ag i cg, .slice af m cf] 27 (0, 0)))
              case atStart => exact ⟨⟨0, rfl, rfl, Nat.zero_le _⟩, HKy.out, Hbx.out⟩
              case round =>
                clear c0 hbl HKy Hbx
                obtain ⟨⟨f, hk7, hi7, hn7⟩, hKy, hbx⟩ := hrel
                subst hi7
                have HKy := Lib.hid hKy
                have Hbx := Lib.hid hbx
                have Hk7 := Lib.hid hk7
                have c1 := box_cell hbx 1 _ rfl
                have hbl := box_lt hbx
                clear hKy hbx hk7
                by_cases hlt7 : f < m
                case pos =>
                  obtain ⟨gg, cc, hv, hle, hmx, hgl, hcs⟩ := fn_cells HY.out.2.2 (by rw [HMs.out.len]; omega)
                  injection hv with e1 e2 e3
                  subst e1
                  clear e2 e3
                  have hi' : f < M.length := by rw [HMs.out.len]; exact hlt7
                  obtain ⟨n0, n1, n2, n3, n4, n5⟩ := HMs.out.at_ f hi'
                  obtain ⟨ap, cp, ar, cr, ae, ce, an, nn, cn, ab, cb, d0, d1, d2, d3, d4, d5, d6, d7, hst⟩ := hcs f hi'
                  have hbz : M[f].body.length = Z := by have := congrArg List.length n5; simpa using this
                  have hkind : ∀ j (hj : j < M[f].body.length), M[f].body[j].kind = stK j := by
                    intro j hj
                    have := congrArg (fun l => l[j]?) n5
                    simp only [List.getElem?_map, List.getElem?_eq_getElem hj, Option.map_some] at this
                    rw [List.getElem?_range (by omega)] at this
                    simpa using this
                  rw [n0, dB_app] at d0
                  rw [n2] at d2
                  rw [n1, show readT [117, 49, 54] = 4 from rfl] at d3
                  rw [n3] at d4
                  rw [n4] at d5
                  rw [hbz] at d7 hst
                  have Hst := Lib.hid (And.intro hst (And.intro hbz hkind))
                  have cellY : ∀ (o : Nat) (v : Value), y.cell? ⟨gg, o, none⟩ = some v → wr.cell? ⟨gg, o, none⟩ = some v := fun o v h => (Below.cell (p := ⟨gg, o, none⟩) HKy.out hgl).trans h
                  have x0 := cellY _ _ d0
                  have x1 := cellY _ _ d1
                  have x2 := cellY _ _ d2
                  have x3 := cellY _ _ d3
                  have x4 := cellY _ _ d4
                  have x5 := cellY _ _ d5
                  have x6 := cellY _ _ d6
                  have x7 := cellY _ _ d7
                  generalize M[f].place = pl at *
                  have hD := dB_size f
                  have HD := Lib.hid (fun wx => Digits_small (n := f) (by omega) wx)
                  clear n0 n1 n2 n3 n4 n5 d0 d1 d2 d3 d4 d5 d6 d7 hcs hle hmx hst hbz hkind cellY
                  go_upto_region 39 with fail
                  have hbox := heap_alloc_new wr (.cells #[.string (⟨#[102]⟩ ++ dB f), .int .i64 pl, .slice ap P cp, .int .i64 4, .slice ar C cr, .slice ae C ce, .slice an nn cn, .slice ab Z cb] 38)
                  have hkb : Kept wr (wr.alloc (.cells #[.string (⟨#[102]⟩ ++ dB f), .int .i64 pl, .slice ap P cp, .int .i64 4, .slice ar C cr, .slice ae C ce, .slice an nn cn, .slice ab Z cb] 38)) := (Kept.refl wr).alloc _
                  have hob := (Below.block hkb _ hbl).trans Hbx.out
                  have HKy2 := Lib.hid (HKy.out.trans hkb)
                  have Hbox := Lib.hid hbox
                  have Hob := Lib.hid hob
                  have y0 := box_cell hbox 0 _ rfl
                  have y2 := box_cell hbox 2 _ rfl
                  have y3 := box_cell hbox 3 _ rfl
                  have y4 := box_cell hbox 4 _ rfl
                  have y5 := box_cell hbox 5 _ rfl
                  have y7 := box_cell hbox 7 _ rfl
                  have hbl2 := box_lt hbox
                  have hbl3 := box_lt hob
                  clear hbox hob hkb x0 x1 x2 x3 x4 x5 x6 x7 c1 HKy Hbx
                  generalize wr.alloc (.cells #[.string (⟨#[102]⟩ ++ dB f), .int .i64 pl, .slice ap P cp, .int .i64 4, .slice ar C cr, .slice ae C ce, .slice an nn cn, .slice ab Z cb] 38) = wa at *
                  generalize wr.heap.size = bx at *
                  have hadd := fun u => add_dB 102 f u
                  have t2 : a2.tmod 4 = (P : Int) := by rw [Int.tmod_eq_emod_of_nonneg (by omega)]; exact eP
                  have t3 : a3.tmod 4 = (C : Int) := by rw [Int.tmod_eq_emod_of_nonneg (by omega)]; exact eC
                  have t4 : a4.tmod 9 = (Z : Int) := by rw [Int.tmod_eq_emod_of_nonneg (by omega)]; exact eZ
                  have q2 := wrapS (P : Int) (by omega)
                  have q3 := wrapS (C : Int) (by omega)
                  have q4 := wrapS (Z : Int) (by omega)
                  have r2 := wrapS a2 (by omega)
                  have r3 := wrapS a3 (by omega)
                  have r4 := wrapS a4 (by omega)
                  go_region_held3 (fun w' => w'.cell? ⟨bx, 0, none⟩ = some (.string (⟨#[102]⟩ ++ dB f)) ∧ w'.cell? ⟨bx, 2, none⟩ = some (.slice ap P cp) ∧ w'.cell? ⟨bx, 3, none⟩ = some (.int .i64 4) ∧ w'.cell? ⟨bx, 4, none⟩ = some (.slice ar C cr) ∧ w'.cell? ⟨bx, 5, none⟩ = some (.slice ae C ce) ∧ w'.cell? ⟨bx, 7, none⟩ = some (.slice ab Z cb))
                    (first | go_keep | exact ⟨z0, z2, z3, z4, z5, z7⟩)
                    (first | (go_at_call 4; refine (HD.out _).mono ?_; rintro e v1 ⟨rfl, K1⟩; have z0 : v1.cell? ⟨bx, 0, none⟩ = some (.string (⟨#[102]⟩ ++ dB f)) := (Below.cell (p := ⟨bx, 0, none⟩) K1.out hbl2).trans y0; have z2 : v1.cell? ⟨bx, 2, none⟩ = some (.slice ap P cp) := (Below.cell (p := ⟨bx, 2, none⟩) K1.out hbl2).trans y2; have z3 : v1.cell? ⟨bx, 3, none⟩ = some (.int .i64 4) := (Below.cell (p := ⟨bx, 3, none⟩) K1.out hbl2).trans y3; have z4 : v1.cell? ⟨bx, 4, none⟩ = some (.slice ar C cr) := (Below.cell (p := ⟨bx, 4, none⟩) K1.out hbl2).trans y4; have z5 : v1.cell? ⟨bx, 5, none⟩ = some (.slice ae C ce) := (Below.cell (p := ⟨bx, 5, none⟩) K1.out hbl2).trans y5; have z7 : v1.cell? ⟨bx, 7, none⟩ = some (.slice ab Z cb) := (Below.cell (p := ⟨bx, 7, none⟩) K1.out hbl2).trans y7))
                  go_wp2_with fail
                  try rw [eP]
                  try rw [eC]
                  try rw [eZ]
                  have HKv := Lib.hid (HKy2.out.drew.trans K1.out)
                  have HBv := Lib.hid ((Below.block K1.out _ hbl2).trans Hbox.out)
                  have HOv := Lib.hid ((Below.block K1.out _ hbl3).trans Hob.out)
                  clear hadd t2 t3 t4 q2 q3 q4 r2 r3 r4
                  clear K1 HKy2 Hbox Hob
                  go_loopg [23] Z (fun k t wx => (∃ i', LpAt Z k t i') ∧ Kept v1 wx)
                  case atStart => exact ⟨⟨0, rfl, rfl, Nat.zero_le _⟩, Kept.refl _⟩
                  case round =>
                    obtain ⟨⟨j, hk8, hi8, hn8⟩, hKx⟩ := hrel
                    subst hi8
                    have hb8 := (Below.block hKx _ (box_lt HBv.out)).trans HBv.out
                    have s7 := box_cell hb8 7 _ rfl
                    have hbl8 := box_lt hb8
                    have HKx := Lib.hid hKx
                    have Hk8 := Lib.hid hk8
                    clear hKx hk8 hb8
                    by_cases hlt8 : j < Z
                    case pos =>
                      obtain ⟨gs, cs, hv, hle, hmx, hgl, hcs⟩ := st_cells Hst.out.1 (by rw [Hst.out.2.1]; omega)
                      injection hv with e1 e2 e3
                      subst e1
                      clear e2 e3
                      have hj' : j < M[f].body.length := by rw [Hst.out.2.1]; exact hlt8
                      have d := hcs j hj'
                      rw [Hst.out.2.2 j hj'] at d
                      have xo := (Below.cell (p := ⟨gs, j * 15, none⟩) (HKv.out.trans HKx.out) hgl).trans d
                      have hg2 : gs < wr.heap.size := by have := (HKv.out.trans HKx.out).size; omega
                      clear hcs d hj' hle hmx
                      have h3 : j % 3 = 0 ∨ j % 3 = 1 ∨ j % 3 = 2 := by omega
                      rcases h3 with h3 | h3 | h3
                      · have x : wr.cell? ⟨gs, j * 15, none⟩ = some (.int .i64 8) := by rw [xo]; simp [stK, h3]
                        have t3 : (j : Int).tmod 3 = 0 := by rw [Int.tmod_eq_emod_of_nonneg (by omega)]; omega
                        clear h3 xo
                        go_upto_region 44 with fail
                        go_region
                        go_wp2_with fail
                        go_roundg (Z - (j + 1))
                        case measure => have := Hk8.out; omega
                        case rel => exact ⟨⟨j + 1, rfl, by simp, by omega⟩, (HKx.out.alloc _).drew⟩
                      · have x : wr.cell? ⟨gs, j * 15, none⟩ = some (.int .i64 9) := by rw [xo]; simp [stK, h3]
                        have t3 : (j : Int).tmod 3 = 1 := by rw [Int.tmod_eq_emod_of_nonneg (by omega)]; omega
                        clear h3 xo
                        go_upto_region 44 with fail
                        go_region
                        go_wp2_with fail
                        go_roundg (Z - (j + 1))
                        case measure => have := Hk8.out; omega
                        case rel => exact ⟨⟨j + 1, rfl, by simp, by omega⟩, (HKx.out.alloc _).drew⟩
                      · have x : wr.cell? ⟨gs, j * 15, none⟩ = some (.int .i64 10) := by rw [xo]; simp [stK, h3]
                        have t3 : (j : Int).tmod 3 = 2 := by rw [Int.tmod_eq_emod_of_nonneg (by omega)]; omega
                        clear h3 xo
                        go_upto_region 44 with fail
                        go_region
                        go_wp2_with fail
                        go_roundg (Z - (j + 1))
                        case measure => have := Hk8.out; omega
                        case rel => exact ⟨⟨j + 1, rfl, by simp, by omega⟩, (HKx.out.alloc _).drew⟩
                    case neg =>
                      obtain rfl : j = Z := by omega
                      go_wp2_with fail
                      go_roundg (m - (f + 1))
                      case measure => have := Hk7.out; omega
                      case rel => exact ⟨⟨f + 1, rfl, by simp, by omega⟩, HKv.out.trans HKx.out, (Below.block HKx.out _ (box_lt HOv.out)).trans HOv.out⟩
                case neg =>
                  obtain rfl : f = m := by omega
                  have HAd := Lib.hid (HA.out wr ((HW.out.trans HY.out.1).trans HKy.out))
                  go_wp2_with (first | (go_at_call 7; refine (HAd.out).mono ?_; rintro e w6 ⟨rfl, Hk6⟩))
                  go_ret
                  exact ⟨rfl, Lib.hid (((HW.out.trans HY.out.1).trans HKy.out).trans Hk6.out)⟩

set_option maxRecDepth 100000 in
theorem lifted (os : Os) (started : os.Started) (H : Type) (enc : TypeId × Value → H) :
    ReturnsInHanded {} Tryz.checked os 3 .any (fun w args => (Rows.parsePartsSpec.pre enc Tryz.prog Tryz.f3 [] false w args ∧ laidMetH Tryz.prog Lex.laid3 w) ∧ sizedMet enc Tryz.prog Tryz.f3 (OpenSpec.ofChange Rows.parsePartsSpec) false w args)
      (Rows.parsePartsSpec.post enc Tryz.prog Tryz.f3 false true false false) := by
  refine returnsInHanded_of_change_and (C := Tryz.checked) (X := fun w _ => laidMetH Tryz.prog Lex.laid3 w) (fun _ _ _ hh h => h.of_heap hh) Lex.own started (by kernel_rfl) Tryz.func3
    (ChangeSpec.witness_shaped (enc := enc) (C := Tryz.checked) (os := os) (X := fun w _ => laidMetH Tryz.prog Lex.laid3 w) false (World.doorLaid Tryz.prog 400 os) #[.int .u8 0, .int .u8 0, .int .u8 0, .int .u8 0, .int .u8 0] 8 rfl (World.shaped_of_RefB (by kernel_rfl) (by kernel_rfl)) (by kernel_rfl) (by kernel_rfl) (by kernel_rfl) (Lex.door_met os _)) ?_
  intro W base args ds gs before hval0 hW _ _ hL _
  have hval : ∀ (j : Nat) t v, Tryz.f3.params[j]? = some t → args[j]? = some v → Value.okWide Tryz.prog W .any base t v := hval0
  have hW' := hW
  obtain ⟨p, q, hA0, hV, rfl, hfz, hnd⟩ := hW
  have hA : DataW.TrodAll enc Tryz.prog W 0 (fun _ => true) true Tryz.f3.params.toList args.toList ds p := hA0
  rw [Tryz.params3] at hA hval
  obtain ⟨v0, vs0, d0, ds0, p0, q0, hargs, rfl, rfl, h0, r0⟩ := trodAll_cons hA
  obtain ⟨v1, vs1, d1, ds1, p1, q1, rfl, rfl, rfl, h1, r1⟩ := trodAll_cons r0
  obtain ⟨v2, vs2, d2, ds2, p2, q2, rfl, rfl, rfl, h2, r2⟩ := trodAll_cons r1
  obtain ⟨v3, vs3, d3, ds3, p3, q3, rfl, rfl, rfl, h3, r3⟩ := trodAll_cons r2
  obtain ⟨v4, vs4, d4, ds4, p4, q4, rfl, rfl, rfl, h4, r4⟩ := trodAll_cons r3
  obtain ⟨rfl, rfl, rfl⟩ := trodAll_nil r4
  obtain rfl : args = #[v0, v1, v2, v3, v4] := by cases args; simp_all
  obtain ⟨rfl, rfl⟩ := trodVars_none hV
  obtain ⟨a0, rfl, rfl, rfl, w0⟩ := open_int Tryz.underlying5 (hval 0 5 v0 rfl rfl) h0
  obtain ⟨a1, rfl, rfl, rfl, w1⟩ := open_int Tryz.underlying5 (hval 1 5 v1 rfl rfl) h1
  obtain ⟨a2, rfl, rfl, rfl, w2⟩ := open_int Tryz.underlying5 (hval 2 5 v2 rfl rfl) h2
  obtain ⟨a3, rfl, rfl, rfl, w3⟩ := open_int Tryz.underlying5 (hval 3 5 v3 rfl rfl) h3
  obtain ⟨a4, rfl, rfl, rfl, w4⟩ := open_int Tryz.underlying5 (hval 4 5 v4 rfl rfl) h4
  obtain ⟨pL, pW, hl⟩ := Lex.of_laid hL
  clear hA0 hval0
  simp only [List.append_nil] at hW'
  refine (walk a0 w0 a1 w1 a2 w2 a3 w3 a4 w4 W pL pW hl).mono fun e W' ⟨he, hg⟩ => ?_
  subst he
  exact ⟨_, rfl, post_kept hW' (fun _ _ _ => (trodAll_cons_mk (shut_bool Tryz.underlying4 _) trodAll_mk0)) (fun sp => (trodAll_cons_mk (shut_int Tryz.underlying5 w0) (trodAll_cons_mk (shut_int Tryz.underlying5 w1) (trodAll_cons_mk (shut_int Tryz.underlying5 w2) (trodAll_cons_mk (shut_int Tryz.underlying5 w3) (trodAll_cons_mk (shut_int Tryz.underlying5 w4) trodAll_mk0)))))) (fun _ => rfl) hg.out⟩

theorem over : Rows.parsePartsRow.holds Tryz.pinned (OpenSpec.ofChange Rows.parsePartsSpec) :=
  OpenClaim.holds_of_wide 3 Tryz.f3 rfl rfl rfl rfl rfl rfl rfl ⟨rfl, rfl, rfl, rfl, rfl⟩ rfl rfl rfl rfl rfl (by kernel_rfl) Tryz.func3 (by kernel_rfl)
    (of_decide_eq_true (by kernel_rfl)) (by unfold Func.isWrapper; first | (rw [if_pos (by decide +kernel)]; kernel_rfl) | (rw [if_neg (by decide +kernel)]; exact ⟨rfl, rfl⟩))
    (fun os started H enc _ => lifted os started H enc)

/-- THE STATEMENT. -/
theorem proved : Rows.ParsePartsCardSaid :=
  Claim7.holds_tied_plain_at .later [] [.handle, .sentinel, .sentinel] true (true, "428efbb026266ffbfd2c4b76cb4c275f3e0bc6665670abccf834c593a45a4831") true
    over (fun _ h => by cases h) (by kernel_rfl) (fun _ h => by cases h) parseParts_row_tie rfl ⟨rfl, rfl⟩ (by kernel_rfl) rfl
    (fun f fn hf hfn => by
      obtain rfl : f = 3 := Option.some.inj ((show Tryz.prog.funcNamed "calliper/calliperlaw3.ParseParts" = some 3 by kernel_rfl).symm.trans hf) |>.symm
      obtain rfl : fn = Tryz.f3 := (Option.some.inj (Tryz.func3.symm.trans hfn)).symm
      exact ⟨by kernel_rfl, fun j t ht => by
        rw [Tryz.params3] at ht
        have hm : t ∈ [5, 5, 5, 5, 5] := by simpa using Array.mem_of_getElem? ht
        have hall : ([5, 5, 5, 5, 5].all fun u => !Tryz.prog.wantsStandIn u) = true := by kernel_rfl
        exact (show Tryz.prog.wantsStandIn t = false by simpa using List.all_eq_true.1 hall t hm)⟩)
    (by kernel_rfl)
#print axioms proved
end Go.Proofs.YtoafcpbpnkfhoaaGreatDoor.parseParts
