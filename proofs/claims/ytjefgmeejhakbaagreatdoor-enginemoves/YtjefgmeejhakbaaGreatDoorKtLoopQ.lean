/- keep's does: who is over now. -/
import Derived.Test.YtjefgmeejhakbaaGreatDoorMgARQ
import Derived.BigRegion
namespace Go.Proofs.YtjefgmeejhakbaaGreatDoor
open Go.RowKit
theorem over_zero (E : Eng) (s : Int) (l : List Int) : overTo E s 0 l = l := by
  refine List.ext_getElem? (fun i => ?_)
  rw [over_get]
  cases l[i]? with
  | none => rfl
  | some o => simp
theorem over_hit {E : Eng} {s : Int} {i : Nat} {l : List Int} (h : l[i]? = some 0) (hb : overB E i = true) : overTo E s (i + 1) l = (overTo E s i l).set i s := by
  have hi := (List.getElem?_eq_some_iff.1 h).1
  refine List.ext_getElem? (fun j => ?_)
  rw [over_get, List.getElem?_set, over_get]
  by_cases e : i = j
  · subst e
    rw [if_pos rfl, if_pos (by unfold overTo; simpa using hi), h]
    simp [hb]
  · rw [if_neg e]
    cases l[j]? with
    | none => rfl
    | some o =>
      simp only [Option.map_some]
      congr 1
      by_cases hj : j < i
      · simp [hj, show j < i + 1 by omega]
      · simp [hj, show ¬ j < i + 1 by omega]
theorem over_miss {E : Eng} {s : Int} {i : Nat} {l : List Int} {o : Int} (h : l[i]? = some o) (hb : ¬ (o = 0 ∧ overB E i = true)) : overTo E s (i + 1) l = overTo E s i l := by
  refine List.ext_getElem? (fun j => ?_)
  rw [over_get, over_get]
  by_cases e : i = j
  · subst e
    rw [h]
    simp only [Option.map_some]
    rw [if_neg (fun hc => hb hc.2), if_neg (by omega)]
  · cases l[j]? with
    | none => rfl
    | some o =>
      simp only [Option.map_some]
      congr 1
      by_cases hj : j < i
      · simp [hj, show j < i + 1 by omega]
      · simp [hj, show ¬ j < i + 1 by omega]
def firstLoop : Code → Option Code
  | .loop c => some c
  | .seq a b => match firstLoop a with
    | some c => some c
    | none => firstLoop b
  | .block _ c => firstLoop c
  | .scope c => firstLoop c
  | .cond _ a b => match firstLoop a with
    | some c => some c
    | none => firstLoop b
  | _ => none
noncomputable def overBody : Code := ((Tryz.f24.body.bind firstLoop).getD .skip)
set_option maxRecDepth 1000000 in
set_option maxHeartbeats 4000000 in
theorem over_loop {w0 : Gr} {w : World} {L2 : EnL} {E2 : Eng} {TL2 : TalL} {t2 : Tal} {N tb : Nat} (HTT : Hid (TaleAt w0 w L2 E2 TL2 t2)) (HEN : Hid (E2.txs.length = N)) (hle : N ≤ 200) (hTb : TL2.b = tb) (Q : Exit → Act → World → Prop)
    (hexit : ∀ (a' : Act) (w' : World), a'.defers = [] ∧ TaleAt w0 w' L2 E2 TL2 (endT E2 t2) → Q (.exit 1) a' w') (c1 c2 c3 c4 c5 c6 c7 c8 c9 c10 c11 c12 c13 c14 c15 c16 c17 c18 c19 c20 c21 c22 c23 c24 c25 c26 c28 c29 c30 c31 c32 c33 c34 c35 c36 c37 c38 c39 c40 c41 c42 c43 c44 c45 c46 c47 c48 c49 c50 c51 c52 c53 c54 c55 c56 c57 c58 c59 c60 c61 c62 c63 c64 c65 c66 c67 c68 c69 c70 c71 c72 c73 c74 c75 c76 c77 c78 c79 c80 c81 c82 c83 c84 c85 c86 c87 c88 c89 c90 c91 c92 c93 c94 c95 c96 c97 c98 c99 c100 c101 c102 c103 c104 c105 c106 c107 c108 c109 c110 c111 c112 c113 c114 c115 c116 c117 c118 c119 c120 c121 c122 c123 c124 c125 c126 c127 c128 c129 c130 c131 c132 c133 c134 c135 c136 c137 c138 c139 c140 c141 c142 c143 c144 c145 c146 c147 c148 c149 c150 c151 c152 c153 c154 c155 c156 c157 c158 c159 c160 c161 c162 c163 c164 c165 c166 c167 c168 c169 c170 c171 c172 c173 c174 c175 c176 c177 c178 c179 c180 c181 c182 c183 c184 c185 c186 c187 c188 c189 c190 c191 c192 c193 c194 c195 c196 c197 c198 c199 c200 c201 c202 c203 c204 c205 c206 c207 c208 c209 c210 c211 c212 c213 c214 c215 c216 c217 c218 c219 c220 c221 c222 c223 c224 c225 c226 c227 c228 c229 c230 c231 c232 c233 c234 c235 c236 c237 c238 c239 c240 c241 c242 c243 c244 c245 c246 c247 c248 c249 c250 c251 c252 c253 c254 c255 c256 c257 c258 c259 c260 c261 c262 c263 c264 c265 c266 c267 c268 c269 c270 c271 c272 c273 c274 c275 c276 c277 c278 c279 c280 c281 c282 c283 c284 c285 c286 c287 c288 c289 c290 c291 c292 c293 c294 c295 c296 c297 c298 c299 c300 c301 c302 c303 c304 c305 c306 c307 c308 c309 c310 c311 c312 c313 c314 c315 c316 c317 c318 c319 c320 c321 c322 c323 c324 c325 c326 c327 c328 c329 c330 c331 c332 c333 c334 c335 c336 c337 c338 c339 c340 c341 c342 c343 c344 c345 c346 c347 c348 c349 c350 c351 c352 c353 c354 c355 c356 c357 c358 c359 c360 c361 c362 c363 c364 c365 c366 c367 c368 c369 c370 c371 c372 c373 c374 c375 c376 c377 c378 c379 c380 c381 c382 c383 c384 c385 c386 c387 c388 c389 c390 c391 c392 c393 : Value) :
    Code.wp Tryz.prog (Code.loop overBody) Q ⟨List.toArray (.pointer (some ⟨tb, 0, none⟩) :: c1 :: c2 :: c3 :: c4 :: c5 :: c6 :: c7 :: c8 :: c9 :: c10 :: c11 :: c12 :: c13 :: c14 :: c15 :: c16 :: c17 :: c18 :: c19 :: c20 :: c21 :: c22 :: c23 :: c24 :: c25 :: c26 :: .int .i64 0 :: c28 :: c29 :: c30 :: c31 :: c32 :: c33 :: c34 :: c35 :: c36 :: c37 :: c38 :: c39 :: c40 :: c41 :: c42 :: c43 :: c44 :: c45 :: c46 :: c47 :: c48 :: c49 :: c50 :: c51 :: c52 :: c53 :: c54 :: c55 :: c56 :: c57 :: c58 :: c59 :: c60 :: c61 :: c62 :: c63 :: c64 :: c65 :: c66 :: c67 :: c68 :: c69 :: c70 :: c71 :: c72 :: c73 :: c74 :: c75 :: c76 :: c77 :: c78 :: c79 :: c80 :: c81 :: c82 :: c83 :: c84 :: c85 :: c86 :: c87 :: c88 :: c89 :: c90 :: c91 :: c92 :: c93 :: c94 :: c95 :: c96 :: c97 :: c98 :: c99 :: c100 :: c101 :: c102 :: c103 :: c104 :: c105 :: c106 :: c107 :: c108 :: c109 :: c110 :: c111 :: c112 :: c113 :: c114 :: c115 :: c116 :: c117 :: c118 :: c119 :: c120 :: c121 :: c122 :: c123 :: c124 :: c125 :: c126 :: c127 :: c128 :: c129 :: c130 :: c131 :: c132 :: c133 :: c134 :: c135 :: c136 :: c137 :: c138 :: c139 :: c140 :: c141 :: c142 :: c143 :: c144 :: c145 :: c146 :: c147 :: c148 :: c149 :: c150 :: c151 :: c152 :: c153 :: c154 :: c155 :: c156 :: c157 :: c158 :: c159 :: c160 :: c161 :: c162 :: c163 :: c164 :: c165 :: c166 :: c167 :: c168 :: c169 :: c170 :: c171 :: c172 :: c173 :: c174 :: c175 :: c176 :: c177 :: c178 :: c179 :: c180 :: c181 :: c182 :: c183 :: c184 :: c185 :: c186 :: c187 :: c188 :: c189 :: c190 :: c191 :: c192 :: c193 :: c194 :: c195 :: c196 :: c197 :: c198 :: c199 :: c200 :: c201 :: c202 :: c203 :: c204 :: c205 :: c206 :: c207 :: c208 :: c209 :: c210 :: c211 :: c212 :: c213 :: c214 :: c215 :: c216 :: c217 :: c218 :: c219 :: c220 :: c221 :: c222 :: c223 :: c224 :: c225 :: c226 :: c227 :: c228 :: c229 :: c230 :: c231 :: c232 :: c233 :: c234 :: c235 :: c236 :: c237 :: c238 :: c239 :: c240 :: c241 :: c242 :: c243 :: c244 :: c245 :: c246 :: c247 :: c248 :: c249 :: c250 :: c251 :: c252 :: c253 :: c254 :: c255 :: c256 :: c257 :: c258 :: c259 :: c260 :: c261 :: c262 :: c263 :: c264 :: c265 :: c266 :: c267 :: c268 :: c269 :: c270 :: c271 :: c272 :: c273 :: c274 :: c275 :: c276 :: c277 :: c278 :: c279 :: c280 :: c281 :: c282 :: c283 :: c284 :: c285 :: c286 :: c287 :: c288 :: c289 :: c290 :: c291 :: c292 :: c293 :: c294 :: c295 :: c296 :: c297 :: c298 :: c299 :: c300 :: c301 :: c302 :: c303 :: c304 :: c305 :: c306 :: c307 :: c308 :: c309 :: c310 :: c311 :: c312 :: c313 :: c314 :: c315 :: c316 :: c317 :: c318 :: c319 :: c320 :: c321 :: c322 :: c323 :: c324 :: c325 :: c326 :: c327 :: c328 :: c329 :: c330 :: c331 :: c332 :: c333 :: c334 :: c335 :: c336 :: c337 :: c338 :: c339 :: c340 :: c341 :: c342 :: c343 :: c344 :: c345 :: c346 :: c347 :: c348 :: c349 :: c350 :: c351 :: c352 :: c353 :: c354 :: c355 :: c356 :: c357 :: c358 :: c359 :: c360 :: c361 :: c362 :: c363 :: c364 :: c365 :: c366 :: c367 :: c368 :: c369 :: c370 :: c371 :: c372 :: c373 :: c374 :: c375 :: c376 :: c377 :: c378 :: c379 :: c380 :: c381 :: c382 :: c383 :: c384 :: c385 :: c386 :: c387 :: c388 :: c389 :: c390 :: c391 :: c392 :: c393 :: []), []⟩ w := by
  conv => arg 2; arg 1; whnf
  go_loopw [27] (fun iv wr => ∃ i : Nat, iv = .int .i64 i ∧ i ≤ N ∧ Hid (TaleAt w0 wr L2 E2 TL2 { t2 with over := overTo E2 t2.steps i t2.over })) (fun iv _ => N - (intOf iv).toNat)
  case atStart => exact ⟨0, rfl, Nat.zero_le _, by rw [over_zero]; exact HTT.out⟩
  case round =>
    obtain ⟨i, rfl, hi, HT⟩ := hrel
    have c1 := HT.out.tal.cell 1
    simp only [talCells, List.getElem?_toArray, List.getElem?_cons_zero, List.getElem?_cons_succ] at c1
    obtain ⟨ad1, cap1, hr1⟩ := row_form (HT.out.tal.rows 0 (by omega))
    rw [HEN.out] at hr1
    rw [hr1, hTb] at c1
    clear hr1
    by_cases hlt : i < N
    · have c0 := HT.out.tal.cell 0
      simp only [talCells, List.getElem?_toArray, List.getElem?_cons_zero] at c0
      rw [hTb] at c0
      obtain ⟨u, hu⟩ : ∃ u, E2.txs[i]? = some u := ⟨E2.txs[i]'(by have := HEN.out; omega), List.getElem?_eq_getElem _⟩
      have HST := hid (state_ok HT.out.en hu)
      have HU := hid hu
      obtain ⟨st, hst2⟩ : ∃ st, u.state = st := ⟨_, rfl⟩
      rw [hst2] at HST
      have HST2 := hid hst2
      have g1 : (i : Int) < (N : Int) := by omega
      have g2 : (0 : Int) ≤ (i : Int) := by omega
      have gi : IntKind.i64.wrap ((i : Int) + 1) = (i : Int) + 1 := IntWalk.i64_in _ (by omega)
      clear hst2 hu
      go_wp2_with fail
      refine HST.out.mono ?_
      rintro e w4 ⟨rfl, q, hw4⟩
      have HT4 := hid (show TaleAt w0 w4 L2 E2 TL2 { t2 with over := overTo E2 t2.steps i t2.over } by rw [hw4]; exact HT.out.drewN q)
      clear hw4 c0 c1 HST HT
      have c6 := HT4.out.tal.cell 6
      have c7 := HT4.out.tal.cell 7
      simp only [talCells, List.getElem?_toArray, List.getElem?_cons_zero, List.getElem?_cons_succ] at c6 c7
      rw [hTb] at c6 c7
      obtain ⟨o, ho⟩ : ∃ o, t2.over[i]? = some o := ⟨t2.over[i]'(by have := HTT.out.tal.len.over; have := HEN.out; omega), List.getElem?_eq_getElem _⟩
      have ho2 : (overTo E2 t2.steps i t2.over)[i]? = some o := by rw [over_get, ho]; simp
      have hrow := HT4.out.tal.rows 5 (by omega)
      rcases row_slice hrow with ⟨_, e0⟩ | ⟨g, cap, hr5, hg, hcs⟩
      · have := HEN.out; omega
      · have cx : w4.cell? ⟨g, i, none⟩ = some (.int .i64 o) := hcs i _ (intsV_get ho2)
        rw [HEN.out] at hr5
        rw [hr5] at c6
        have HR5 := hid hr5
        have HO := hid ho
        clear hrow hcs ho ho2 hr5
        by_cases h0 : o = 0
        · subst h0
          by_cases h2 : 2 ≤ st
          · have g3 : decide (st ≥ 2) = true := by simpa using h2
            obtain ⟨hT5, hK5⟩ := HT4.out.tal.setOver (by rw [HEN.out]; exact HR5.out) (i := i) t2.steps
            have HT5 := hid (HT4.out.tale hT5 hK5)
            have hfz : w4.frozen? ⟨g, i, none⟩ = false := by
              obtain ⟨cur, hcur⟩ := owns_typ (HT4.out.tal.rows 5 (by omega)) (g := g) (by rw [HR5.out]; rfl)
              simp [World.frozen?, hcur]
            clear hT5 hK5
            go_wp2
            go_region
            go_wp2
            go_roundw
            case rel =>
              refine ⟨i + 1, by go_num, by omega, ?_⟩
              have hov : overB E2 i = true := by unfold overB; rw [HU.out]; simp only; rw [HST2.out]; simpa using h2
              have := HT5.out
              rw [← over_hit HO.out hov] at this
              exact this.drewN 1
            case measure => simp [intOf]; omega
          · have g3 : decide (st ≥ 2) = false := by simpa using h2
            go_wp2
            go_roundw
            case rel =>
              refine ⟨i + 1, by go_num, by omega, ?_⟩
              rw [over_miss HO.out (fun hc => by
                have h3 := hc.2
                unfold overB at h3
                rw [HU.out] at h3
                simp only at h3
                rw [HST2.out] at h3
                simp at h3
                omega)]
              exact HT4.out
            case measure => simp [intOf]; omega
        · have g4 : (o == 0) = false := by simpa using h0
          go_wp2
          go_roundw
          case rel =>
            refine ⟨i + 1, by go_num, by omega, ?_⟩
            rw [over_miss HO.out (fun hc => h0 hc.1)]
            exact HT4.out
          case measure => simp [intOf]; omega
    · have g1 : ¬ (i : Int) < (N : Int) := by omega
      have hiN : i = N := by omega
      go_wp2
      have hlen : t2.over.length = N := by have := HTT.out.tal.len.over; rw [HEN.out] at this; exact this
      unfold endT
      rw [hlen, ← hiN]
      exact HT.out
end Go.Proofs.YtjefgmeejhakbaaGreatDoor
