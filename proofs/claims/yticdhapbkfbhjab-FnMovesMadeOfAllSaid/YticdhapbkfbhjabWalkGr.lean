/- The walk of the law on made moves: the long test of a round. -/
import Derived.Test.YticdhapbkfbhjabTabM
import Derived.Test.YticdhapbkfbhjabOtL
import Derived.Test.YticdhapbkfbhjabWalkGa
import Derived.Deep.RegionHeld3
import Derived.IntWalk
namespace Go.Proofs.Yticdhapbkfbhjab
open Go.RowKit

def hdM : Code → Code
  | .seq a _ => a
  | c => c
def thM : Code → Code
  | .cond _ a _ => a
  | c => c
def bkM : Code → Code
  | .block _ c => c
  | c => c
def lpM : Code → Code
  | .loop c => c
  | c => c
/-- What the loop's long test may lean on. -/
structure Lists (n0 Bx : Nat) (w0 : World) (A1 A3 A5 A6 : Option Addr) (M T F Mr : List (Int × Int)) (W : World) : Prop where
  l1 : MvAt W A1 M
  l3 : MvAt W A3 T
  l5 : MvAt W A5 F
  l6 : MvAt W A6 Mr
  lt : Bx < W.heap.size
  bel : Below n0 w0 W
  le : n0 ≤ w0.heap.size
theorem Lists.below {n0 Bx : Nat} {w0 W W' : World} {A1 A3 A5 A6 : Option Addr} {M T F Mr : List (Int × Int)} (h : Lists n0 Bx w0 A1 A3 A5 A6 M T F Mr W) (hb : Below W.heap.size W W') : Lists n0 Bx w0 A1 A3 A5 A6 M T F Mr W' :=
  ⟨h.l1.below hb, h.l3.below hb, h.l5.below hb, h.l6.below hb, Nat.lt_of_lt_of_le h.lt hb.size, h.bel.trans (hb.mono (Nat.le_trans h.le h.bel.size)), h.le⟩
def HeldM (n0 Bx : Nat) (w0 : World) (A1 A3 A5 A6 : Option Addr) (M T F Mr : List (Int × Int)) (x y : Value) (W : World) : Prop :=
  W.cell? ⟨Bx, 0, none⟩ = some x ∧ W.cell? ⟨Bx, 1, none⟩ = some y ∧ Lists n0 Bx w0 A1 A3 A5 A6 M T F Mr W
theorem held_next {n0 Bx : Nat} {w0 W W' : World} {A1 A3 A5 A6 : Option Addr} {M T F Mr : List (Int × Int)} {x y : Value} (hb : Below W.heap.size W W') (h : HeldM n0 Bx w0 A1 A3 A5 A6 M T F Mr x y W) : HeldM n0 Bx w0 A1 A3 A5 A6 M T F Mr x y W' :=
  ⟨(hb.cell (p := ⟨Bx, 0, none⟩) h.2.2.lt).trans h.1, (hb.cell (p := ⟨Bx, 1, none⟩) h.2.2.lt).trans h.2.1, h.2.2.below hb⟩
theorem held_drew {n0 Bx : Nat} {w0 W : World} {A1 A3 A5 A6 : Option Addr} {M T F Mr : List (Int × Int)} {x y : Value} (h : HeldM n0 Bx w0 A1 A3 A5 A6 M T F Mr x y W) : HeldM n0 Bx w0 A1 A3 A5 A6 M T F Mr x y W.drew :=
  held_next (Below.drew (Below.refl _ _)) h
theorem held_3 {n0 Bx : Nat} {w0 W : World} {A1 A3 A5 A6 : Option Addr} {M T F Mr : List (Int × Int)} {x y : Value} (h : W.cell? ⟨Bx, 0, none⟩ = some x ∧ W.cell? ⟨Bx, 1, none⟩ = some y ∧ Lists n0 Bx w0 A1 A3 A5 A6 M T F Mr W) : MvAt W A3 T := h.2.2.l3
theorem held_5 {n0 Bx : Nat} {w0 W : World} {A1 A3 A5 A6 : Option Addr} {M T F Mr : List (Int × Int)} {x y : Value} (h : W.cell? ⟨Bx, 0, none⟩ = some x ∧ W.cell? ⟨Bx, 1, none⟩ = some y ∧ Lists n0 Bx w0 A1 A3 A5 A6 M T F Mr W) : MvAt W A5 F := h.2.2.l5
theorem held_6 {n0 Bx : Nat} {w0 W : World} {A1 A3 A5 A6 : Option Addr} {M T F Mr : List (Int × Int)} {x y : Value} (h : W.cell? ⟨Bx, 0, none⟩ = some x ∧ W.cell? ⟨Bx, 1, none⟩ = some y ∧ Lists n0 Bx w0 A1 A3 A5 A6 M T F Mr W) : MvAt W A6 Mr := h.2.2.l6
theorem box_size {w wc : World} {o : Obj} (hB : Below (w.heap.size + 1) (w.alloc o) wc) : w.heap.size + 1 ≤ wc.heap.size := by simpa using hB.size

set_option maxRecDepth 100000 in
set_option maxHeartbeats 16000000 in
theorem made_test {s : ByteArray} {A1 A3 A5 A6 : Option Addr} {cap3 cap5 cap6 nT nF n0 Bx : Nat} {way prs cw cp pv a b : Int} {M T F Mr : List (Int × Int)} {w0 W : World} {y1 y2 y3 y4 y5 y6 y7 y8 y9 y10 y12 y13 y14 y16 y17 y18 y20 y21 y22 y24 y25 y26 y27 y28 y29 y30 y31 y32 y33 y34 y36 y37 y38 y39 y40 y41 y45 y47 y55 y56 y57 y58 y59 y60 y61 y62 y63 y64 y65 y66 y67 y68 y69 y70 y71 y72 y73 y74 y75 y76 y77 y78 y79 y80 y81 y82 y83 y84 y85 y86 y87 y88 y89 y90 y91 y92 y93 y94 y95 y96 y97 y98 y99 y100 y101 y102 y103 y104 y105 y106 y107 y108 y109 y110 y111 y112 y113 y114 y115 y116 y117 y118 y119 y120 y121 y122 y123 y124 y125 y126 y127 y128 y129 y130 y131 y132 y133 y134 y135 y136 y137 y138 y139 y140 y141 y142 y143 y144 y145 y146 y147 y148 y149 y150 y151 y152 y153 y154 y155 y156 y157 y158 y159 y160 y161 y162 y163 y164 y165 y166 y167 y168 y169 y170 y171 y172 y173 y174 y175 y176 y177 y178 y179 y180 y181 y182 y183 y184 y185 y186 y187 y188 y189 y190 y191 y192 y193 y194 y195 y196 y197 y198 y199 y200 y201 y202 y203 y204 y205 y206 y207 y208 y209 y210 y211 y212 y213 y214 y215 y216 y217 y218 y219 y220 y221 y222 y223 y224 y225 y226 y227 y228 y229 y230 y231 y232 y233 y234 y235 y236 y237 y238 y239 y240 y241 y242 y243 y244 y245 y246 y247 y248 y249 y250 y251 y252 y253 y254 y255 y256 y257 y258 y259 y260 y261 y262 y263 y264 y265 y266 y267 y268 y269 y270 y271 y272 y273 y274 y275 y276 y277 y278 y279 y280 y281 y282 y283 y284 y285 y286 y287 y288 y289 y290 y291 y292 y293 y294 y295 y296 y297 y298 y299 y300 y301 y302 y303 y304 y305 y306 y307 y308 y309 y310 y311 y312 y313 y314 y315 y316 y317 y318 y319 y320 y321 y322 y323 y324 y325 y326 y327 y328 y329 y330 y331 y332 y333 y334 y335 y336 y337 y338 y339 y340 y341 y342 y343 y344 y345 y346 y347 y348 y349 y350 y351 y352 y353 y354 y355 y356 y357 y358 y359 y360 y361 y362 y363 y364 y365 y366 y367 y368 y369 y370 y371 y372 y373 y374 y375 y376 y377 y378 y379 y380 y381 y382 y383 y384 y385 y386 y387 y388 y389 y390 y391 y392 y393 y394 y395 y396 y397 y398 y399 y400 y401 y402 y403 y404 y405 y406 y407 y408 y409 y410 y411 y412 y413 y414 y415 y416 y417 y418 y419 y420 y421 y422 y423 y424 y425 y426 y427 y428 y429 y430 y431 y432 y433 y434 y435 y436 y437 y438 y439 y440 y441 y442 y443 y444 y445 y446 y447 y448 y449 y450 y451 y452 y453 y454 y455 y456 y457 y458 y459 y460 y461 y462 y463 y464 y465 y466 y467 y468 y469 y470 y471 y472 y473 y474 y475 y476 y477 y478 y479 y480 y481 y482 y483 y484 y485 y486 y487 y488 y489 y490 y491 y492 y493 y494 y495 y496 y497 y498 y499 y500 y501 y502 y503 y504 y505 y506 y507 y508 y509 y510 y511 y512 y513 y514 y515 y516 : Value} (Q : Exit → Act → World → Prop)
    (s12 : s.size ≤ 12) (h24 : nT + nF ≤ 24) (hT : Hid (T.length = nT)) (hF : Hid (F.length = nF)) (hR : Hid (Mr.length = nT + nF)) (r6 : Hid (decide ((a, b) ∈ T) = decide (a < b))) (r7 : Hid (decide ((a, b) ∈ F) = !decide (a < b))) (r8 : Hid (decide (((s.size : Int) - 1 - a, (s.size : Int) - 1 - b) ∈ Mr) = true))
    (ha : 0 ≤ a ∧ a < s.size) (hb0 : 0 ≤ b ∧ b < s.size) (hway : 0 ≤ way ∧ way ≤ 50000) (hprs : 0 ≤ prs ∧ prs ≤ 1000) (hcw : 0 ≤ cw ∧ cw ≤ 2) (hpv : IntKind.i64.wrap (prs - cp) = pv)
    (HH : Hid (HeldM n0 Bx w0 A1 A3 A5 A6 M T F Mr (.int .i64 a) (.int .i64 b) W))
    (hQ : Hid (∀ {u365 u366 u367 u368 u369 u370 u371 u372 u373 u374 u375 u376 u377 u378 u379 u380 u381 u382 u383 u384 u385 u386 u387 u388 u389 u390 u391 u392 u393 u394 u395 u396 u397 u398 u399 u400 u401 u402 u403 u404 u405 u406 u407 u408 u409 u410 u411 u412 u413 u414 u415 u416 u417 u418 u419 u420 u421 u422 u423 u424 u425 u426 u427 u428 u429 u430 u431 u432 u433 u434 u435 u436 u437 : Value} (w' : World), Lists n0 Bx w0 A1 A3 A5 A6 M T F Mr w' → Q .normal { tmps := #[.string s, y1, y2, y3, y4, y5, y6, y7, y8, y9, y10, .slice A3 nT cap3, y12, y13, y14, .slice A5 nF cap5, y16, y17, y18, .int .i64 way, y20, y21, y22, .int .i64 prs, y24, y25, y26, y27, y28, y29, y30, y31, y32, y33, y34, .slice A6 (nT + nF) cap6, y36, y37, y38, y39, y40, y41, .pointer (some ⟨Bx, 0, none⟩), .bool true, .bool true, y45, .bool true, y47, .bool true, .int .i64 (way - cw), .bool true, .int .i64 pv, .bool true, .int .i64 cw, .int .i64 cp, y55, y56, y57, y58, y59, y60, y61, y62, y63, y64, y65, y66, y67, y68, y69, y70, y71, y72, y73, y74, y75, y76, y77, y78, y79, y80, y81, y82, y83, y84, y85, y86, y87, y88, y89, y90, y91, y92, y93, y94, y95, y96, y97, y98, y99, y100, y101, y102, y103, y104, y105, y106, y107, y108, y109, y110, y111, y112, y113, y114, y115, y116, y117, y118, y119, y120, y121, y122, y123, y124, y125, y126, y127, y128, y129, y130, y131, y132, y133, y134, y135, y136, y137, y138, y139, y140, y141, y142, y143, y144, y145, y146, y147, y148, y149, y150, y151, y152, y153, y154, y155, y156, y157, y158, y159, y160, y161, y162, y163, y164, y165, y166, y167, y168, y169, y170, y171, y172, y173, y174, y175, y176, y177, y178, y179, y180, y181, y182, y183, y184, y185, y186, y187, y188, y189, y190, y191, y192, y193, y194, y195, y196, y197, y198, y199, y200, y201, y202, y203, y204, y205, y206, y207, y208, y209, y210, y211, y212, y213, y214, y215, y216, y217, y218, y219, y220, y221, y222, y223, y224, y225, y226, y227, y228, y229, y230, y231, y232, y233, y234, y235, y236, y237, y238, y239, y240, y241, y242, y243, y244, y245, y246, y247, y248, y249, y250, y251, y252, y253, y254, y255, y256, y257, y258, y259, y260, y261, y262, y263, y264, y265, y266, y267, y268, y269, y270, y271, y272, y273, y274, y275, y276, y277, y278, y279, y280, y281, y282, y283, y284, y285, y286, y287, y288, y289, y290, y291, y292, y293, y294, y295, y296, y297, y298, y299, y300, y301, y302, y303, y304, y305, y306, y307, y308, y309, y310, y311, y312, y313, y314, y315, y316, y317, y318, y319, y320, y321, y322, y323, y324, y325, y326, y327, y328, y329, y330, y331, y332, y333, y334, y335, y336, y337, y338, y339, y340, y341, y342, y343, y344, y345, y346, y347, y348, y349, y350, y351, y352, y353, y354, y355, y356, y357, y358, y359, y360, y361, y362, y363, y364, u365, u366, u367, u368, u369, u370, u371, u372, u373, u374, u375, u376, u377, u378, u379, u380, u381, u382, u383, u384, u385, u386, u387, u388, u389, u390, u391, u392, u393, u394, u395, u396, u397, u398, u399, u400, u401, u402, u403, u404, u405, u406, u407, u408, u409, u410, u411, u412, u413, u414, u415, u416, u417, u418, u419, u420, u421, u422, u423, u424, u425, u426, u427, u428, u429, u430, u431, u432, u433, u434, u435, u436, u437, .bool false, y439, y440, y441, y442, y443, y444, y445, y446, y447, y448, y449, y450, y451, y452, y453, y454, y455, y456, y457, y458, y459, y460, y461, y462, y463, y464, y465, y466, y467, y468, y469, y470, y471, y472, y473, y474, y475, y476, y477, y478, y479, y480, y481, y482, y483, y484, y485, y486, y487, y488, y489, y490, y491, y492, y493, y494, y495, y496, y497, y498, y499, y500, y501, y502, y503, y504, y505, y506, y507, y508, y509, y510, y511, y512, y513, y514, y515, y516], defers := [] } w')) :
    Code.wp Try.prog (hdM (tlM (tlM (tlM (tlM (tlM (tlM (tlM (tlM (bkM (hdM (tlM (tlM (lpM (bkM (tlM (tlM (tlM (tlM (tlM (tlM (thM (tlM (hdM (tlM (tlM (tlM (tlM (tlM (tlM (tlM (tlM (tlM (tlM (tlM (tlM (tlM (tlM (tlM (tlM (tlM (Try.f6.body.getD .skip)))))))))))))))))))))))))))))))))))))))))) Q { tmps := #[.string s, y1, y2, y3, y4, y5, y6, y7, y8, y9, y10, .slice A3 nT cap3, y12, y13, y14, .slice A5 nF cap5, y16, y17, y18, .int .i64 way, y20, y21, y22, .int .i64 prs, y24, y25, y26, y27, y28, y29, y30, y31, y32, y33, y34, .slice A6 (nT + nF) cap6, y36, y37, y38, y39, y40, y41, .pointer (some ⟨Bx, 0, none⟩), .bool true, .bool true, y45, .bool true, y47, .bool true, .int .i64 (way - cw), .bool true, .int .i64 pv, .bool true, .int .i64 cw, .int .i64 cp, y55, y56, y57, y58, y59, y60, y61, y62, y63, y64, y65, y66, y67, y68, y69, y70, y71, y72, y73, y74, y75, y76, y77, y78, y79, y80, y81, y82, y83, y84, y85, y86, y87, y88, y89, y90, y91, y92, y93, y94, y95, y96, y97, y98, y99, y100, y101, y102, y103, y104, y105, y106, y107, y108, y109, y110, y111, y112, y113, y114, y115, y116, y117, y118, y119, y120, y121, y122, y123, y124, y125, y126, y127, y128, y129, y130, y131, y132, y133, y134, y135, y136, y137, y138, y139, y140, y141, y142, y143, y144, y145, y146, y147, y148, y149, y150, y151, y152, y153, y154, y155, y156, y157, y158, y159, y160, y161, y162, y163, y164, y165, y166, y167, y168, y169, y170, y171, y172, y173, y174, y175, y176, y177, y178, y179, y180, y181, y182, y183, y184, y185, y186, y187, y188, y189, y190, y191, y192, y193, y194, y195, y196, y197, y198, y199, y200, y201, y202, y203, y204, y205, y206, y207, y208, y209, y210, y211, y212, y213, y214, y215, y216, y217, y218, y219, y220, y221, y222, y223, y224, y225, y226, y227, y228, y229, y230, y231, y232, y233, y234, y235, y236, y237, y238, y239, y240, y241, y242, y243, y244, y245, y246, y247, y248, y249, y250, y251, y252, y253, y254, y255, y256, y257, y258, y259, y260, y261, y262, y263, y264, y265, y266, y267, y268, y269, y270, y271, y272, y273, y274, y275, y276, y277, y278, y279, y280, y281, y282, y283, y284, y285, y286, y287, y288, y289, y290, y291, y292, y293, y294, y295, y296, y297, y298, y299, y300, y301, y302, y303, y304, y305, y306, y307, y308, y309, y310, y311, y312, y313, y314, y315, y316, y317, y318, y319, y320, y321, y322, y323, y324, y325, y326, y327, y328, y329, y330, y331, y332, y333, y334, y335, y336, y337, y338, y339, y340, y341, y342, y343, y344, y345, y346, y347, y348, y349, y350, y351, y352, y353, y354, y355, y356, y357, y358, y359, y360, y361, y362, y363, y364, y365, y366, y367, y368, y369, y370, y371, y372, y373, y374, y375, y376, y377, y378, y379, y380, y381, y382, y383, y384, y385, y386, y387, y388, y389, y390, y391, y392, y393, y394, y395, y396, y397, y398, y399, y400, y401, y402, y403, y404, y405, y406, y407, y408, y409, y410, y411, y412, y413, y414, y415, y416, y417, y418, y419, y420, y421, y422, y423, y424, y425, y426, y427, y428, y429, y430, y431, y432, y433, y434, y435, y436, y437, y438, y439, y440, y441, y442, y443, y444, y445, y446, y447, y448, y449, y450, y451, y452, y453, y454, y455, y456, y457, y458, y459, y460, y461, y462, y463, y464, y465, y466, y467, y468, y469, y470, y471, y472, y473, y474, y475, y476, y477, y478, y479, y480, y481, y482, y483, y484, y485, y486, y487, y488, y489, y490, y491, y492, y493, y494, y495, y496, y497, y498, y499, y500, y501, y502, y503, y504, y505, y506, y507, y508, y509, y510, y511, y512, y513, y514, y515, y516], defers := [] } W := by
  have yT := fun wx (h : MvAt wx A3 T) => yIn_any T A3 cap3 a b wx h (by rw [hT.out]; omega)
  have yF := fun wx (h : MvAt wx A5 F) => yIn_any F A5 cap5 a b wx h (by rw [hF.out]; omega)
  rw [hT.out, r6.out] at yT
  rw [hF.out, r7.out] at yF
  generalize hd : decide (a < b) = d at yT yF
  have YT := Lib.hid yT
  have YF := Lib.hid yF
  clear yT yF r6 r7
  have yR := fun wx (h : MvAt wx A6 Mr) => yIn_any Mr A6 cap6 ((s.size : Int) - 1 - a) ((s.size : Int) - 1 - b) wx h (by rw [hR.out]; omega)
  rw [hR.out, r8.out] at yR
  have YR := Lib.hid yR
  clear yR r8
  obtain ⟨a0, a1⟩ := ha
  obtain ⟨b0, b1⟩ := hb0
  obtain ⟨_, _⟩ := hway
  obtain ⟨_, _⟩ := hprs
  obtain ⟨_, _⟩ := hcw
  have q1 : IntKind.i64.wrap ((s.size : Int) - 1) = (s.size : Int) - 1 := IntWalk.i64_in _ (by omega)
  have q2 : IntKind.i64.wrap ((s.size : Int) - 1 - a) = (s.size : Int) - 1 - a := IntWalk.i64_in _ (by omega)
  have q3 : IntKind.i64.wrap ((s.size : Int) - 1 - b) = (s.size : Int) - 1 - b := IntWalk.i64_in _ (by omega)
  have q4 : IntKind.i64.wrap (way - cw) = way - cw := IntWalk.i64_in _ (by omega)
  have q5 : IntKind.i64.wrap (prs - cp) = pv := hpv
  clear hpv
  conv => arg 2; whnf
  (try conv => arg 2; simp only [List.append])
  go_region_held3 (fun w' => w'.cell? ⟨Bx, 0, none⟩ = some (.int .i64 a) ∧ w'.cell? ⟨Bx, 1, none⟩ = some (.int .i64 b) ∧ Lists n0 Bx w0 A1 A3 A5 A6 M T F Mr w')
    (first | exact HH.out | exact held_drew HH.out | exact held_next hb (by assumption))
    (first
      | (go_at_call_of 38 (Value.slice A3 nT cap3); refine (YT.out _ ?_).mono ?_; (exact held_3 (by assumption)); rintro e w' ⟨rfl, hb⟩)
      | (go_at_call_of 38 (Value.slice A5 nF cap5); refine (YF.out _ ?_).mono ?_; (exact held_5 (by assumption)); rintro e w' ⟨rfl, hb⟩)
      | (go_at_call_of 38 (Value.slice A6 (nT + nF) cap6); refine (YR.out _ ?_).mono ?_; (exact held_6 (by assumption)); rintro e w' ⟨rfl, hb⟩))
  rename_i hHeld
  exact hQ.out _ hHeld.2.2
end Go.Proofs.Yticdhapbkfbhjab
