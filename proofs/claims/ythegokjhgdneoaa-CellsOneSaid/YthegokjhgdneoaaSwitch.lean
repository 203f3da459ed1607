/-
  The switch in the round of CellsOne, as a statement of its own: whatever else the frame holds. Conditions: the cells are what the words and the table say.
-/
import Derived.Test.YthegokjhgdneoaaOne
import Derived.Deep.QuietTactic
import Derived.BigQuiet
namespace Go.Proofs.Ythegokjhgdneoaa.cellsOne
open Go.ChangeShapes Go.WideShapes Go.ChangeAt Go.RowKit Go.Joins Go.Deep
set_option linter.unusedVariables false      -- the arms have one list of conditions

/-- Behind the switch: a write is still to be put down, or all is as it should be. -/
def CutR (W : World) (mb ab wb lb : Nat) (s : Value) (L : List (Int × Int)) (ws : Nat → Int) (ln : Nat → Nat → Bool) (a : Nat) (z : Int) (s12 : Value) (w : World) : Prop :=
  (s12 = .bool true ∧ Bare W w mb ab wb lb s (L.set a (z, 0)) ws ln) ∨ (s12 = .bool false ∧ ∃ L2 ws2 ln2, Rel L2 ws2 ln2 ∧ Bare W w mb ab wb lb s L2 ws2 ln2)

/-- The first block of that number in a piece of code. -/
def findBlock (n : Nat) : Code → Option Code
  | .block m c => if m = n then some (.block m c) else findBlock n c
  | .loop c => findBlock n c
  | .scope c => findBlock n c
  | .seq a b => match findBlock n a with
    | some c => some c
    | none => findBlock n b
  | .cond _ a b => match findBlock n a with
    | some c => some c
    | none => findBlock n b
  | _ => none

noncomputable def sw : Code := (Try.f4.body.bind (findBlock 2)).getD .skip

set_option maxRecDepth 1000000 in
set_option maxHeartbeats 4000000 in
theorem sw_load {mb ab wb lb : Nat} {s : Value} {L : List (Int × Int)} {ws : Nat → Int} {ln : Nat → Nat → Bool} {a p : Nat} {z l : Int} {W w : World} {Q : Exit → Act → World → Prop}
    {c0 c1 c2 c3 c5 c8 c13 c14 c15 c16 c17 c18 c19 c20 c21 c22 c23 c24 c25 c26 c27 c28 c29 c30 c31 c32 c33 c34 c35 c36 c37 c38 c39 c40 c41 c42 c43 c44 c45 c46 c47 c48 c49 c50 c51 c52 c53 c54 c55 c56 c57 c58 c59 c60 c61 c62 c63 c64 c65 c66 c67 c68 c69 c70 c71 c73 c74 c75 c76 c77 c78 c79 c80 c81 c82 c83 c84 c85 c86 c87 c88 c89 c90 c91 c92 c93 c94 c95 c96 c97 c98 c99 c100 c101 c102 c103 c104 c105 c106 c107 c108 c109 c110 c111 c112 c113 c114 c115 c116 c117 c118 c119 c120 c121 c122 c123 c124 c125 c126 c127 c128 c129 c130 c131 c132 c133 c134 c135 c136 c137 c138 c139 c140 c141 c142 c143 c144 c145 c146 c147 c148 c149 c150 c151 c152 c153 c154 c155 c156 c157 c158 c159 c160 c161 c162 c163 c164 c165 c166 c167 c168 c169 c170 c171 c172 c173 c174 c175 c176 c177 c178 c179 c180 c181 c182 c183 c184 c185 c186 c187 c188 c189 c190 c191 c192 c193 c194 c195 c196 c197 c198 c199 : Value}
    (hR : Rel L ws ln) (hB : Bare W w mb ab wb lb s L ws ln) (ha6 : a < 6) (hp16 : p < 16) (hk : L[a]? = some (ws a, l)) (hlk : LinksTo (ln a) 16 l)
    (hQ : ∀ (d12 d13 d14 d15 d16 d17 d18 d19 d20 d73 d74 d75 d76 d77 d78 d79 d80 d81 d82 d83 d84 d85 d86 d87 d88 d89 d90 d91 d92 d93 d94 d95 d96 d97 d98 d99 d100 d101 d102 d103 d104 d105 d106 d107 d108 d109 d110 d111 d112 d113 d114 d115 d116 d117 d118 d119 d120 d121 d122 d123 d124 d125 d126 d127 d128 d129 d130 d131 d132 d133 d134 d135 d136 d137 d138 d139 d140 d141 d142 d143 d144 d145 d146 d147 d148 d149 d150 d151 d152 d153 d154 d155 d156 d157 d158 d159 d160 d161 d162 d163 : Value) (w' : World), CutR W mb ab wb lb s L ws ln a z d12 w' → Q .normal ⟨#[c0, c1, c2, c3, .pointer (some ⟨mb, 0, none⟩), c5, .pointer (some ⟨wb, 0, none⟩), .pointer (some ⟨lb, 0, none⟩), c8, .int .i64 (p : Nat), .int .i64 (a : Nat), .int .u64 z, d12, d13, d14, d15, d16, d17, d18, d19, d20, c21, c22, c23, c24, c25, c26, c27, c28, c29, c30, c31, c32, c33, c34, c35, c36, c37, c38, c39, c40, c41, c42, c43, c44, c45, c46, c47, c48, c49, c50, c51, c52, c53, c54, c55, c56, c57, c58, c59, c60, c61, c62, c63, c64, c65, c66, c67, c68, c69, c70, c71, .int .i64 0, d73, d74, d75, d76, d77, d78, d79, d80, d81, d82, d83, d84, d85, d86, d87, d88, d89, d90, d91, d92, d93, d94, d95, d96, d97, d98, d99, d100, d101, d102, d103, d104, d105, d106, d107, d108, d109, d110, d111, d112, d113, d114, d115, d116, d117, d118, d119, d120, d121, d122, d123, d124, d125, d126, d127, d128, d129, d130, d131, d132, d133, d134, d135, d136, d137, d138, d139, d140, d141, d142, d143, d144, d145, d146, d147, d148, d149, d150, d151, d152, d153, d154, d155, d156, d157, d158, d159, d160, d161, d162, d163, c164, c165, c166, c167, c168, c169, c170, c171, c172, c173, c174, c175, c176, c177, c178, c179, c180, c181, c182, c183, c184, c185, c186, c187, c188, c189, c190, c191, c192, c193, c194, c195, c196, c197, c198, c199], []⟩ w') :
    Code.wp Try.prog sw Q ⟨#[c0, c1, c2, c3, .pointer (some ⟨mb, 0, none⟩), c5, .pointer (some ⟨wb, 0, none⟩), .pointer (some ⟨lb, 0, none⟩), c8, .int .i64 (p : Nat), .int .i64 (a : Nat), .int .u64 z, .bool false, c13, c14, c15, c16, c17, c18, c19, c20, c21, c22, c23, c24, c25, c26, c27, c28, c29, c30, c31, c32, c33, c34, c35, c36, c37, c38, c39, c40, c41, c42, c43, c44, c45, c46, c47, c48, c49, c50, c51, c52, c53, c54, c55, c56, c57, c58, c59, c60, c61, c62, c63, c64, c65, c66, c67, c68, c69, c70, c71, .int .i64 0, c73, c74, c75, c76, c77, c78, c79, c80, c81, c82, c83, c84, c85, c86, c87, c88, c89, c90, c91, c92, c93, c94, c95, c96, c97, c98, c99, c100, c101, c102, c103, c104, c105, c106, c107, c108, c109, c110, c111, c112, c113, c114, c115, c116, c117, c118, c119, c120, c121, c122, c123, c124, c125, c126, c127, c128, c129, c130, c131, c132, c133, c134, c135, c136, c137, c138, c139, c140, c141, c142, c143, c144, c145, c146, c147, c148, c149, c150, c151, c152, c153, c154, c155, c156, c157, c158, c159, c160, c161, c162, c163, c164, c165, c166, c167, c168, c169, c170, c171, c172, c173, c174, c175, c176, c177, c178, c179, c180, c181, c182, c183, c184, c185, c186, c187, c188, c189, c190, c191, c192, c193, c194, c195, c196, c197, c198, c199], []⟩ w := by
  have HK := Lib.hid hk
  clear hk
  conv => arg 2; whnf
  go_wp2_with (first
          | (go_at_call 15; (with_reducible refine (load_b hB HK.out).mono ?_); clear hB; rintro e w' ⟨rfl, hB⟩; have hw := (hB.wd a ha6).1; have HF := Lib.hid hB; clear hB))
  exact Or.inr ⟨rfl, _, _, _, hR, HF.out⟩

set_option maxRecDepth 1000000 in
set_option maxHeartbeats 4000000 in
theorem sw_store {mb ab wb lb : Nat} {s : Value} {L : List (Int × Int)} {ws : Nat → Int} {ln : Nat → Nat → Bool} {a p : Nat} {z l : Int} {W w : World} {Q : Exit → Act → World → Prop}
    {c0 c1 c2 c3 c5 c8 c13 c14 c15 c16 c17 c18 c19 c20 c21 c22 c23 c24 c25 c26 c27 c28 c29 c30 c31 c32 c33 c34 c35 c36 c37 c38 c39 c40 c41 c42 c43 c44 c45 c46 c47 c48 c49 c50 c51 c52 c53 c54 c55 c56 c57 c58 c59 c60 c61 c62 c63 c64 c65 c66 c67 c68 c69 c70 c71 c73 c74 c75 c76 c77 c78 c79 c80 c81 c82 c83 c84 c85 c86 c87 c88 c89 c90 c91 c92 c93 c94 c95 c96 c97 c98 c99 c100 c101 c102 c103 c104 c105 c106 c107 c108 c109 c110 c111 c112 c113 c114 c115 c116 c117 c118 c119 c120 c121 c122 c123 c124 c125 c126 c127 c128 c129 c130 c131 c132 c133 c134 c135 c136 c137 c138 c139 c140 c141 c142 c143 c144 c145 c146 c147 c148 c149 c150 c151 c152 c153 c154 c155 c156 c157 c158 c159 c160 c161 c162 c163 c164 c165 c166 c167 c168 c169 c170 c171 c172 c173 c174 c175 c176 c177 c178 c179 c180 c181 c182 c183 c184 c185 c186 c187 c188 c189 c190 c191 c192 c193 c194 c195 c196 c197 c198 c199 : Value}
    (hR : Rel L ws ln) (hB : Bare W w mb ab wb lb s L ws ln) (ha6 : a < 6) (hp16 : p < 16) (hk : L[a]? = some (ws a, l)) (hlk : LinksTo (ln a) 16 l)
    (hQ : ∀ (d12 d13 d14 d15 d16 d17 d18 d19 d20 d73 d74 d75 d76 d77 d78 d79 d80 d81 d82 d83 d84 d85 d86 d87 d88 d89 d90 d91 d92 d93 d94 d95 d96 d97 d98 d99 d100 d101 d102 d103 d104 d105 d106 d107 d108 d109 d110 d111 d112 d113 d114 d115 d116 d117 d118 d119 d120 d121 d122 d123 d124 d125 d126 d127 d128 d129 d130 d131 d132 d133 d134 d135 d136 d137 d138 d139 d140 d141 d142 d143 d144 d145 d146 d147 d148 d149 d150 d151 d152 d153 d154 d155 d156 d157 d158 d159 d160 d161 d162 d163 : Value) (w' : World), CutR W mb ab wb lb s L ws ln a z d12 w' → Q .normal ⟨#[c0, c1, c2, c3, .pointer (some ⟨mb, 0, none⟩), c5, .pointer (some ⟨wb, 0, none⟩), .pointer (some ⟨lb, 0, none⟩), c8, .int .i64 (p : Nat), .int .i64 (a : Nat), .int .u64 z, d12, d13, d14, d15, d16, d17, d18, d19, d20, c21, c22, c23, c24, c25, c26, c27, c28, c29, c30, c31, c32, c33, c34, c35, c36, c37, c38, c39, c40, c41, c42, c43, c44, c45, c46, c47, c48, c49, c50, c51, c52, c53, c54, c55, c56, c57, c58, c59, c60, c61, c62, c63, c64, c65, c66, c67, c68, c69, c70, c71, .int .i64 1, d73, d74, d75, d76, d77, d78, d79, d80, d81, d82, d83, d84, d85, d86, d87, d88, d89, d90, d91, d92, d93, d94, d95, d96, d97, d98, d99, d100, d101, d102, d103, d104, d105, d106, d107, d108, d109, d110, d111, d112, d113, d114, d115, d116, d117, d118, d119, d120, d121, d122, d123, d124, d125, d126, d127, d128, d129, d130, d131, d132, d133, d134, d135, d136, d137, d138, d139, d140, d141, d142, d143, d144, d145, d146, d147, d148, d149, d150, d151, d152, d153, d154, d155, d156, d157, d158, d159, d160, d161, d162, d163, c164, c165, c166, c167, c168, c169, c170, c171, c172, c173, c174, c175, c176, c177, c178, c179, c180, c181, c182, c183, c184, c185, c186, c187, c188, c189, c190, c191, c192, c193, c194, c195, c196, c197, c198, c199], []⟩ w') :
    Code.wp Try.prog sw Q ⟨#[c0, c1, c2, c3, .pointer (some ⟨mb, 0, none⟩), c5, .pointer (some ⟨wb, 0, none⟩), .pointer (some ⟨lb, 0, none⟩), c8, .int .i64 (p : Nat), .int .i64 (a : Nat), .int .u64 z, .bool false, c13, c14, c15, c16, c17, c18, c19, c20, c21, c22, c23, c24, c25, c26, c27, c28, c29, c30, c31, c32, c33, c34, c35, c36, c37, c38, c39, c40, c41, c42, c43, c44, c45, c46, c47, c48, c49, c50, c51, c52, c53, c54, c55, c56, c57, c58, c59, c60, c61, c62, c63, c64, c65, c66, c67, c68, c69, c70, c71, .int .i64 1, c73, c74, c75, c76, c77, c78, c79, c80, c81, c82, c83, c84, c85, c86, c87, c88, c89, c90, c91, c92, c93, c94, c95, c96, c97, c98, c99, c100, c101, c102, c103, c104, c105, c106, c107, c108, c109, c110, c111, c112, c113, c114, c115, c116, c117, c118, c119, c120, c121, c122, c123, c124, c125, c126, c127, c128, c129, c130, c131, c132, c133, c134, c135, c136, c137, c138, c139, c140, c141, c142, c143, c144, c145, c146, c147, c148, c149, c150, c151, c152, c153, c154, c155, c156, c157, c158, c159, c160, c161, c162, c163, c164, c165, c166, c167, c168, c169, c170, c171, c172, c173, c174, c175, c176, c177, c178, c179, c180, c181, c182, c183, c184, c185, c186, c187, c188, c189, c190, c191, c192, c193, c194, c195, c196, c197, c198, c199], []⟩ w := by
  have HK := Lib.hid hk
  clear hk
  conv => arg 2; whnf
  go_wp2_with (first
          | (go_at_call 16; (with_reducible refine (store_b hB HK.out).mono ?_); clear hB; rintro e w' ⟨rfl, hB⟩; skip; have HF := Lib.hid hB; clear hB))
  exact Or.inl ⟨rfl, HF.out⟩

set_option maxRecDepth 1000000 in
set_option maxHeartbeats 4000000 in
theorem sw_ll {mb ab wb lb : Nat} {s : Value} {L : List (Int × Int)} {ws : Nat → Int} {ln : Nat → Nat → Bool} {a p : Nat} {z l : Int} {W w : World} {Q : Exit → Act → World → Prop}
    {c0 c1 c2 c3 c5 c8 c13 c14 c15 c16 c17 c18 c19 c20 c21 c22 c23 c24 c25 c26 c27 c28 c29 c30 c31 c32 c33 c34 c35 c36 c37 c38 c39 c40 c41 c42 c43 c44 c45 c46 c47 c48 c49 c50 c51 c52 c53 c54 c55 c56 c57 c58 c59 c60 c61 c62 c63 c64 c65 c66 c67 c68 c69 c70 c71 c73 c74 c75 c76 c77 c78 c79 c80 c81 c82 c83 c84 c85 c86 c87 c88 c89 c90 c91 c92 c93 c94 c95 c96 c97 c98 c99 c100 c101 c102 c103 c104 c105 c106 c107 c108 c109 c110 c111 c112 c113 c114 c115 c116 c117 c118 c119 c120 c121 c122 c123 c124 c125 c126 c127 c128 c129 c130 c131 c132 c133 c134 c135 c136 c137 c138 c139 c140 c141 c142 c143 c144 c145 c146 c147 c148 c149 c150 c151 c152 c153 c154 c155 c156 c157 c158 c159 c160 c161 c162 c163 c164 c165 c166 c167 c168 c169 c170 c171 c172 c173 c174 c175 c176 c177 c178 c179 c180 c181 c182 c183 c184 c185 c186 c187 c188 c189 c190 c191 c192 c193 c194 c195 c196 c197 c198 c199 : Value}
    (hR : Rel L ws ln) (hB : Bare W w mb ab wb lb s L ws ln) (ha6 : a < 6) (hp16 : p < 16) (hk : L[a]? = some (ws a, l)) (hlk : LinksTo (ln a) 16 l)
    (hQ : ∀ (d12 d13 d14 d15 d16 d17 d18 d19 d20 d73 d74 d75 d76 d77 d78 d79 d80 d81 d82 d83 d84 d85 d86 d87 d88 d89 d90 d91 d92 d93 d94 d95 d96 d97 d98 d99 d100 d101 d102 d103 d104 d105 d106 d107 d108 d109 d110 d111 d112 d113 d114 d115 d116 d117 d118 d119 d120 d121 d122 d123 d124 d125 d126 d127 d128 d129 d130 d131 d132 d133 d134 d135 d136 d137 d138 d139 d140 d141 d142 d143 d144 d145 d146 d147 d148 d149 d150 d151 d152 d153 d154 d155 d156 d157 d158 d159 d160 d161 d162 d163 : Value) (w' : World), CutR W mb ab wb lb s L ws ln a z d12 w' → Q .normal ⟨#[c0, c1, c2, c3, .pointer (some ⟨mb, 0, none⟩), c5, .pointer (some ⟨wb, 0, none⟩), .pointer (some ⟨lb, 0, none⟩), c8, .int .i64 (p : Nat), .int .i64 (a : Nat), .int .u64 z, d12, d13, d14, d15, d16, d17, d18, d19, d20, c21, c22, c23, c24, c25, c26, c27, c28, c29, c30, c31, c32, c33, c34, c35, c36, c37, c38, c39, c40, c41, c42, c43, c44, c45, c46, c47, c48, c49, c50, c51, c52, c53, c54, c55, c56, c57, c58, c59, c60, c61, c62, c63, c64, c65, c66, c67, c68, c69, c70, c71, .int .i64 2, d73, d74, d75, d76, d77, d78, d79, d80, d81, d82, d83, d84, d85, d86, d87, d88, d89, d90, d91, d92, d93, d94, d95, d96, d97, d98, d99, d100, d101, d102, d103, d104, d105, d106, d107, d108, d109, d110, d111, d112, d113, d114, d115, d116, d117, d118, d119, d120, d121, d122, d123, d124, d125, d126, d127, d128, d129, d130, d131, d132, d133, d134, d135, d136, d137, d138, d139, d140, d141, d142, d143, d144, d145, d146, d147, d148, d149, d150, d151, d152, d153, d154, d155, d156, d157, d158, d159, d160, d161, d162, d163, c164, c165, c166, c167, c168, c169, c170, c171, c172, c173, c174, c175, c176, c177, c178, c179, c180, c181, c182, c183, c184, c185, c186, c187, c188, c189, c190, c191, c192, c193, c194, c195, c196, c197, c198, c199], []⟩ w') :
    Code.wp Try.prog sw Q ⟨#[c0, c1, c2, c3, .pointer (some ⟨mb, 0, none⟩), c5, .pointer (some ⟨wb, 0, none⟩), .pointer (some ⟨lb, 0, none⟩), c8, .int .i64 (p : Nat), .int .i64 (a : Nat), .int .u64 z, .bool false, c13, c14, c15, c16, c17, c18, c19, c20, c21, c22, c23, c24, c25, c26, c27, c28, c29, c30, c31, c32, c33, c34, c35, c36, c37, c38, c39, c40, c41, c42, c43, c44, c45, c46, c47, c48, c49, c50, c51, c52, c53, c54, c55, c56, c57, c58, c59, c60, c61, c62, c63, c64, c65, c66, c67, c68, c69, c70, c71, .int .i64 2, c73, c74, c75, c76, c77, c78, c79, c80, c81, c82, c83, c84, c85, c86, c87, c88, c89, c90, c91, c92, c93, c94, c95, c96, c97, c98, c99, c100, c101, c102, c103, c104, c105, c106, c107, c108, c109, c110, c111, c112, c113, c114, c115, c116, c117, c118, c119, c120, c121, c122, c123, c124, c125, c126, c127, c128, c129, c130, c131, c132, c133, c134, c135, c136, c137, c138, c139, c140, c141, c142, c143, c144, c145, c146, c147, c148, c149, c150, c151, c152, c153, c154, c155, c156, c157, c158, c159, c160, c161, c162, c163, c164, c165, c166, c167, c168, c169, c170, c171, c172, c173, c174, c175, c176, c177, c178, c179, c180, c181, c182, c183, c184, c185, c186, c187, c188, c189, c190, c191, c192, c193, c194, c195, c196, c197, c198, c199], []⟩ w := by
  have HK := Lib.hid hk
  clear hk
  conv => arg 2; whnf
  go_wp2_with (first
          | (go_at_call 17; (with_reducible refine (ll_b hB HK.out hp16).mono ?_); clear hB; rintro e w' ⟨rfl, hB⟩; have hw := (hB.wd a ha6).1; have hc := (hB.ln a p ha6 hp16).1; have fc := (hB.ln a p ha6 hp16).2; have HF := Lib.hid hB; clear hB))
  exact Or.inr ⟨rfl, _, _, _, hR.link a ha6 _ _ (links_with hlk p hp16), HF.out.putL ha6 hp16 true⟩

set_option maxRecDepth 1000000 in
set_option maxHeartbeats 4000000 in
theorem sw_vl {mb ab wb lb : Nat} {s : Value} {L : List (Int × Int)} {ws : Nat → Int} {ln : Nat → Nat → Bool} {a p : Nat} {z l : Int} {W w : World} {Q : Exit → Act → World → Prop}
    {c0 c1 c2 c3 c5 c8 c13 c14 c15 c16 c17 c18 c19 c20 c21 c22 c23 c24 c25 c26 c27 c28 c29 c30 c31 c32 c33 c34 c35 c36 c37 c38 c39 c40 c41 c42 c43 c44 c45 c46 c47 c48 c49 c50 c51 c52 c53 c54 c55 c56 c57 c58 c59 c60 c61 c62 c63 c64 c65 c66 c67 c68 c69 c70 c71 c73 c74 c75 c76 c77 c78 c79 c80 c81 c82 c83 c84 c85 c86 c87 c88 c89 c90 c91 c92 c93 c94 c95 c96 c97 c98 c99 c100 c101 c102 c103 c104 c105 c106 c107 c108 c109 c110 c111 c112 c113 c114 c115 c116 c117 c118 c119 c120 c121 c122 c123 c124 c125 c126 c127 c128 c129 c130 c131 c132 c133 c134 c135 c136 c137 c138 c139 c140 c141 c142 c143 c144 c145 c146 c147 c148 c149 c150 c151 c152 c153 c154 c155 c156 c157 c158 c159 c160 c161 c162 c163 c164 c165 c166 c167 c168 c169 c170 c171 c172 c173 c174 c175 c176 c177 c178 c179 c180 c181 c182 c183 c184 c185 c186 c187 c188 c189 c190 c191 c192 c193 c194 c195 c196 c197 c198 c199 : Value}
    (hR : Rel L ws ln) (hB : Bare W w mb ab wb lb s L ws ln) (ha6 : a < 6) (hp16 : p < 16) (hk : L[a]? = some (ws a, l)) (hlk : LinksTo (ln a) 16 l)
    (hQ : ∀ (d12 d13 d14 d15 d16 d17 d18 d19 d20 d73 d74 d75 d76 d77 d78 d79 d80 d81 d82 d83 d84 d85 d86 d87 d88 d89 d90 d91 d92 d93 d94 d95 d96 d97 d98 d99 d100 d101 d102 d103 d104 d105 d106 d107 d108 d109 d110 d111 d112 d113 d114 d115 d116 d117 d118 d119 d120 d121 d122 d123 d124 d125 d126 d127 d128 d129 d130 d131 d132 d133 d134 d135 d136 d137 d138 d139 d140 d141 d142 d143 d144 d145 d146 d147 d148 d149 d150 d151 d152 d153 d154 d155 d156 d157 d158 d159 d160 d161 d162 d163 : Value) (w' : World), CutR W mb ab wb lb s L ws ln a z d12 w' → Q .normal ⟨#[c0, c1, c2, c3, .pointer (some ⟨mb, 0, none⟩), c5, .pointer (some ⟨wb, 0, none⟩), .pointer (some ⟨lb, 0, none⟩), c8, .int .i64 (p : Nat), .int .i64 (a : Nat), .int .u64 z, d12, d13, d14, d15, d16, d17, d18, d19, d20, c21, c22, c23, c24, c25, c26, c27, c28, c29, c30, c31, c32, c33, c34, c35, c36, c37, c38, c39, c40, c41, c42, c43, c44, c45, c46, c47, c48, c49, c50, c51, c52, c53, c54, c55, c56, c57, c58, c59, c60, c61, c62, c63, c64, c65, c66, c67, c68, c69, c70, c71, .int .i64 3, d73, d74, d75, d76, d77, d78, d79, d80, d81, d82, d83, d84, d85, d86, d87, d88, d89, d90, d91, d92, d93, d94, d95, d96, d97, d98, d99, d100, d101, d102, d103, d104, d105, d106, d107, d108, d109, d110, d111, d112, d113, d114, d115, d116, d117, d118, d119, d120, d121, d122, d123, d124, d125, d126, d127, d128, d129, d130, d131, d132, d133, d134, d135, d136, d137, d138, d139, d140, d141, d142, d143, d144, d145, d146, d147, d148, d149, d150, d151, d152, d153, d154, d155, d156, d157, d158, d159, d160, d161, d162, d163, c164, c165, c166, c167, c168, c169, c170, c171, c172, c173, c174, c175, c176, c177, c178, c179, c180, c181, c182, c183, c184, c185, c186, c187, c188, c189, c190, c191, c192, c193, c194, c195, c196, c197, c198, c199], []⟩ w') :
    Code.wp Try.prog sw Q ⟨#[c0, c1, c2, c3, .pointer (some ⟨mb, 0, none⟩), c5, .pointer (some ⟨wb, 0, none⟩), .pointer (some ⟨lb, 0, none⟩), c8, .int .i64 (p : Nat), .int .i64 (a : Nat), .int .u64 z, .bool false, c13, c14, c15, c16, c17, c18, c19, c20, c21, c22, c23, c24, c25, c26, c27, c28, c29, c30, c31, c32, c33, c34, c35, c36, c37, c38, c39, c40, c41, c42, c43, c44, c45, c46, c47, c48, c49, c50, c51, c52, c53, c54, c55, c56, c57, c58, c59, c60, c61, c62, c63, c64, c65, c66, c67, c68, c69, c70, c71, .int .i64 3, c73, c74, c75, c76, c77, c78, c79, c80, c81, c82, c83, c84, c85, c86, c87, c88, c89, c90, c91, c92, c93, c94, c95, c96, c97, c98, c99, c100, c101, c102, c103, c104, c105, c106, c107, c108, c109, c110, c111, c112, c113, c114, c115, c116, c117, c118, c119, c120, c121, c122, c123, c124, c125, c126, c127, c128, c129, c130, c131, c132, c133, c134, c135, c136, c137, c138, c139, c140, c141, c142, c143, c144, c145, c146, c147, c148, c149, c150, c151, c152, c153, c154, c155, c156, c157, c158, c159, c160, c161, c162, c163, c164, c165, c166, c167, c168, c169, c170, c171, c172, c173, c174, c175, c176, c177, c178, c179, c180, c181, c182, c183, c184, c185, c186, c187, c188, c189, c190, c191, c192, c193, c194, c195, c196, c197, c198, c199], []⟩ w := by
  have HK := Lib.hid hk
  clear hk
  conv => arg 2; whnf
  have hq := links_has hlk p hp16
  cases hb : ln a p
  · rw [hb] at hq
    have HQ := Lib.hid hq
    have HBb := Lib.hid hb
    clear hq hb
    go_wp2_with (first
          | (go_at_call 18; (with_reducible refine (vl_b hB HK.out hp16).mono ?_); clear hB; rintro e w' ⟨rfl, hB⟩; rw [HQ.out]; have hc := (hB.ln a p ha6 hp16).1; rw [HBb.out] at hc; have HF := Lib.hid hB; clear hB))
    exact Or.inr ⟨rfl, _, _, _, hR, HF.out⟩
  · rw [hb] at hq
    have HQ := Lib.hid hq
    have HBb := Lib.hid hb
    clear hq hb
    go_wp2_with (first
          | (go_at_call 18; (with_reducible refine (vl_b hB HK.out hp16).mono ?_); clear hB; rintro e w' ⟨rfl, hB⟩; rw [HQ.out]; have hc := (hB.ln a p ha6 hp16).1; rw [HBb.out] at hc; have HF := Lib.hid hB; clear hB))
    exact Or.inr ⟨rfl, _, _, _, hR, HF.out⟩

set_option maxRecDepth 1000000 in
set_option maxHeartbeats 4000000 in
theorem sw_sc {mb ab wb lb : Nat} {s : Value} {L : List (Int × Int)} {ws : Nat → Int} {ln : Nat → Nat → Bool} {a p : Nat} {z l : Int} {W w : World} {Q : Exit → Act → World → Prop}
    {c0 c1 c2 c3 c5 c8 c13 c14 c15 c16 c17 c18 c19 c20 c21 c22 c23 c24 c25 c26 c27 c28 c29 c30 c31 c32 c33 c34 c35 c36 c37 c38 c39 c40 c41 c42 c43 c44 c45 c46 c47 c48 c49 c50 c51 c52 c53 c54 c55 c56 c57 c58 c59 c60 c61 c62 c63 c64 c65 c66 c67 c68 c69 c70 c71 c73 c74 c75 c76 c77 c78 c79 c80 c81 c82 c83 c84 c85 c86 c87 c88 c89 c90 c91 c92 c93 c94 c95 c96 c97 c98 c99 c100 c101 c102 c103 c104 c105 c106 c107 c108 c109 c110 c111 c112 c113 c114 c115 c116 c117 c118 c119 c120 c121 c122 c123 c124 c125 c126 c127 c128 c129 c130 c131 c132 c133 c134 c135 c136 c137 c138 c139 c140 c141 c142 c143 c144 c145 c146 c147 c148 c149 c150 c151 c152 c153 c154 c155 c156 c157 c158 c159 c160 c161 c162 c163 c164 c165 c166 c167 c168 c169 c170 c171 c172 c173 c174 c175 c176 c177 c178 c179 c180 c181 c182 c183 c184 c185 c186 c187 c188 c189 c190 c191 c192 c193 c194 c195 c196 c197 c198 c199 : Value}
    (hR : Rel L ws ln) (hB : Bare W w mb ab wb lb s L ws ln) (ha6 : a < 6) (hp16 : p < 16) (hk : L[a]? = some (ws a, l)) (hlk : LinksTo (ln a) 16 l)
    (hQ : ∀ (d12 d13 d14 d15 d16 d17 d18 d19 d20 d73 d74 d75 d76 d77 d78 d79 d80 d81 d82 d83 d84 d85 d86 d87 d88 d89 d90 d91 d92 d93 d94 d95 d96 d97 d98 d99 d100 d101 d102 d103 d104 d105 d106 d107 d108 d109 d110 d111 d112 d113 d114 d115 d116 d117 d118 d119 d120 d121 d122 d123 d124 d125 d126 d127 d128 d129 d130 d131 d132 d133 d134 d135 d136 d137 d138 d139 d140 d141 d142 d143 d144 d145 d146 d147 d148 d149 d150 d151 d152 d153 d154 d155 d156 d157 d158 d159 d160 d161 d162 d163 : Value) (w' : World), CutR W mb ab wb lb s L ws ln a z d12 w' → Q .normal ⟨#[c0, c1, c2, c3, .pointer (some ⟨mb, 0, none⟩), c5, .pointer (some ⟨wb, 0, none⟩), .pointer (some ⟨lb, 0, none⟩), c8, .int .i64 (p : Nat), .int .i64 (a : Nat), .int .u64 z, d12, d13, d14, d15, d16, d17, d18, d19, d20, c21, c22, c23, c24, c25, c26, c27, c28, c29, c30, c31, c32, c33, c34, c35, c36, c37, c38, c39, c40, c41, c42, c43, c44, c45, c46, c47, c48, c49, c50, c51, c52, c53, c54, c55, c56, c57, c58, c59, c60, c61, c62, c63, c64, c65, c66, c67, c68, c69, c70, c71, .int .i64 4, d73, d74, d75, d76, d77, d78, d79, d80, d81, d82, d83, d84, d85, d86, d87, d88, d89, d90, d91, d92, d93, d94, d95, d96, d97, d98, d99, d100, d101, d102, d103, d104, d105, d106, d107, d108, d109, d110, d111, d112, d113, d114, d115, d116, d117, d118, d119, d120, d121, d122, d123, d124, d125, d126, d127, d128, d129, d130, d131, d132, d133, d134, d135, d136, d137, d138, d139, d140, d141, d142, d143, d144, d145, d146, d147, d148, d149, d150, d151, d152, d153, d154, d155, d156, d157, d158, d159, d160, d161, d162, d163, c164, c165, c166, c167, c168, c169, c170, c171, c172, c173, c174, c175, c176, c177, c178, c179, c180, c181, c182, c183, c184, c185, c186, c187, c188, c189, c190, c191, c192, c193, c194, c195, c196, c197, c198, c199], []⟩ w') :
    Code.wp Try.prog sw Q ⟨#[c0, c1, c2, c3, .pointer (some ⟨mb, 0, none⟩), c5, .pointer (some ⟨wb, 0, none⟩), .pointer (some ⟨lb, 0, none⟩), c8, .int .i64 (p : Nat), .int .i64 (a : Nat), .int .u64 z, .bool false, c13, c14, c15, c16, c17, c18, c19, c20, c21, c22, c23, c24, c25, c26, c27, c28, c29, c30, c31, c32, c33, c34, c35, c36, c37, c38, c39, c40, c41, c42, c43, c44, c45, c46, c47, c48, c49, c50, c51, c52, c53, c54, c55, c56, c57, c58, c59, c60, c61, c62, c63, c64, c65, c66, c67, c68, c69, c70, c71, .int .i64 4, c73, c74, c75, c76, c77, c78, c79, c80, c81, c82, c83, c84, c85, c86, c87, c88, c89, c90, c91, c92, c93, c94, c95, c96, c97, c98, c99, c100, c101, c102, c103, c104, c105, c106, c107, c108, c109, c110, c111, c112, c113, c114, c115, c116, c117, c118, c119, c120, c121, c122, c123, c124, c125, c126, c127, c128, c129, c130, c131, c132, c133, c134, c135, c136, c137, c138, c139, c140, c141, c142, c143, c144, c145, c146, c147, c148, c149, c150, c151, c152, c153, c154, c155, c156, c157, c158, c159, c160, c161, c162, c163, c164, c165, c166, c167, c168, c169, c170, c171, c172, c173, c174, c175, c176, c177, c178, c179, c180, c181, c182, c183, c184, c185, c186, c187, c188, c189, c190, c191, c192, c193, c194, c195, c196, c197, c198, c199], []⟩ w := by
  have HK := Lib.hid hk
  clear hk
  conv => arg 2; whnf
  have hq := links_has hlk p hp16
  cases hb : ln a p
  · rw [hb] at hq
    have HQ := Lib.hid hq
    have HBb := Lib.hid hb
    clear hq hb
    go_wp2_with (first
          | (go_at_call 19; (with_reducible refine (sc_b_not hB HK.out hp16 HQ.out).mono ?_); clear hB; rintro e w' ⟨rfl, hB⟩; have hc := (hB.ln a p ha6 hp16).1; rw [HBb.out] at hc; have HF := Lib.hid hB; clear hB))
    exact Or.inr ⟨rfl, _, _, _, hR, HF.out⟩
  · rw [hb] at hq
    have HQ := Lib.hid hq
    have HBb := Lib.hid hb
    clear hq hb
    go_wp2_with (first
          | (go_at_call 19; (with_reducible refine (sc_b_yes hB HK.out hp16 HQ.out).mono ?_); clear hB; rintro e w' ⟨rfl, hB⟩; have hc := (hB.ln a p ha6 hp16).1; rw [HBb.out] at hc; have HF := Lib.hid hB; clear hB))
    exact Or.inl ⟨rfl, HF.out⟩

set_option maxRecDepth 1000000 in
set_option maxHeartbeats 4000000 in
theorem sw_rl {mb ab wb lb : Nat} {s : Value} {L : List (Int × Int)} {ws : Nat → Int} {ln : Nat → Nat → Bool} {a p : Nat} {z l : Int} {W w : World} {Q : Exit → Act → World → Prop}
    {c0 c1 c2 c3 c5 c8 c13 c14 c15 c16 c17 c18 c19 c20 c21 c22 c23 c24 c25 c26 c27 c28 c29 c30 c31 c32 c33 c34 c35 c36 c37 c38 c39 c40 c41 c42 c43 c44 c45 c46 c47 c48 c49 c50 c51 c52 c53 c54 c55 c56 c57 c58 c59 c60 c61 c62 c63 c64 c65 c66 c67 c68 c69 c70 c71 c73 c74 c75 c76 c77 c78 c79 c80 c81 c82 c83 c84 c85 c86 c87 c88 c89 c90 c91 c92 c93 c94 c95 c96 c97 c98 c99 c100 c101 c102 c103 c104 c105 c106 c107 c108 c109 c110 c111 c112 c113 c114 c115 c116 c117 c118 c119 c120 c121 c122 c123 c124 c125 c126 c127 c128 c129 c130 c131 c132 c133 c134 c135 c136 c137 c138 c139 c140 c141 c142 c143 c144 c145 c146 c147 c148 c149 c150 c151 c152 c153 c154 c155 c156 c157 c158 c159 c160 c161 c162 c163 c164 c165 c166 c167 c168 c169 c170 c171 c172 c173 c174 c175 c176 c177 c178 c179 c180 c181 c182 c183 c184 c185 c186 c187 c188 c189 c190 c191 c192 c193 c194 c195 c196 c197 c198 c199 : Value}
    (hR : Rel L ws ln) (hB : Bare W w mb ab wb lb s L ws ln) (ha6 : a < 6) (hp16 : p < 16) (hk : L[a]? = some (ws a, l)) (hlk : LinksTo (ln a) 16 l)
    (hQ : ∀ (d12 d13 d14 d15 d16 d17 d18 d19 d20 d73 d74 d75 d76 d77 d78 d79 d80 d81 d82 d83 d84 d85 d86 d87 d88 d89 d90 d91 d92 d93 d94 d95 d96 d97 d98 d99 d100 d101 d102 d103 d104 d105 d106 d107 d108 d109 d110 d111 d112 d113 d114 d115 d116 d117 d118 d119 d120 d121 d122 d123 d124 d125 d126 d127 d128 d129 d130 d131 d132 d133 d134 d135 d136 d137 d138 d139 d140 d141 d142 d143 d144 d145 d146 d147 d148 d149 d150 d151 d152 d153 d154 d155 d156 d157 d158 d159 d160 d161 d162 d163 : Value) (w' : World), CutR W mb ab wb lb s L ws ln a z d12 w' → Q .normal ⟨#[c0, c1, c2, c3, .pointer (some ⟨mb, 0, none⟩), c5, .pointer (some ⟨wb, 0, none⟩), .pointer (some ⟨lb, 0, none⟩), c8, .int .i64 (p : Nat), .int .i64 (a : Nat), .int .u64 z, d12, d13, d14, d15, d16, d17, d18, d19, d20, c21, c22, c23, c24, c25, c26, c27, c28, c29, c30, c31, c32, c33, c34, c35, c36, c37, c38, c39, c40, c41, c42, c43, c44, c45, c46, c47, c48, c49, c50, c51, c52, c53, c54, c55, c56, c57, c58, c59, c60, c61, c62, c63, c64, c65, c66, c67, c68, c69, c70, c71, .int .i64 5, d73, d74, d75, d76, d77, d78, d79, d80, d81, d82, d83, d84, d85, d86, d87, d88, d89, d90, d91, d92, d93, d94, d95, d96, d97, d98, d99, d100, d101, d102, d103, d104, d105, d106, d107, d108, d109, d110, d111, d112, d113, d114, d115, d116, d117, d118, d119, d120, d121, d122, d123, d124, d125, d126, d127, d128, d129, d130, d131, d132, d133, d134, d135, d136, d137, d138, d139, d140, d141, d142, d143, d144, d145, d146, d147, d148, d149, d150, d151, d152, d153, d154, d155, d156, d157, d158, d159, d160, d161, d162, d163, c164, c165, c166, c167, c168, c169, c170, c171, c172, c173, c174, c175, c176, c177, c178, c179, c180, c181, c182, c183, c184, c185, c186, c187, c188, c189, c190, c191, c192, c193, c194, c195, c196, c197, c198, c199], []⟩ w') :
    Code.wp Try.prog sw Q ⟨#[c0, c1, c2, c3, .pointer (some ⟨mb, 0, none⟩), c5, .pointer (some ⟨wb, 0, none⟩), .pointer (some ⟨lb, 0, none⟩), c8, .int .i64 (p : Nat), .int .i64 (a : Nat), .int .u64 z, .bool false, c13, c14, c15, c16, c17, c18, c19, c20, c21, c22, c23, c24, c25, c26, c27, c28, c29, c30, c31, c32, c33, c34, c35, c36, c37, c38, c39, c40, c41, c42, c43, c44, c45, c46, c47, c48, c49, c50, c51, c52, c53, c54, c55, c56, c57, c58, c59, c60, c61, c62, c63, c64, c65, c66, c67, c68, c69, c70, c71, .int .i64 5, c73, c74, c75, c76, c77, c78, c79, c80, c81, c82, c83, c84, c85, c86, c87, c88, c89, c90, c91, c92, c93, c94, c95, c96, c97, c98, c99, c100, c101, c102, c103, c104, c105, c106, c107, c108, c109, c110, c111, c112, c113, c114, c115, c116, c117, c118, c119, c120, c121, c122, c123, c124, c125, c126, c127, c128, c129, c130, c131, c132, c133, c134, c135, c136, c137, c138, c139, c140, c141, c142, c143, c144, c145, c146, c147, c148, c149, c150, c151, c152, c153, c154, c155, c156, c157, c158, c159, c160, c161, c162, c163, c164, c165, c166, c167, c168, c169, c170, c171, c172, c173, c174, c175, c176, c177, c178, c179, c180, c181, c182, c183, c184, c185, c186, c187, c188, c189, c190, c191, c192, c193, c194, c195, c196, c197, c198, c199], []⟩ w := by
  have HK := Lib.hid hk
  clear hk
  conv => arg 2; whnf
  go_wp2_with (first
          | (go_at_call 20; (with_reducible refine (rl_b hB HK.out hp16).mono ?_); clear hB; rintro e w' ⟨rfl, hB⟩; have hc := (hB.ln a p ha6 hp16).1; have fc := (hB.ln a p ha6 hp16).2; have HF := Lib.hid hB; clear hB))
  exact Or.inr ⟨rfl, _, _, _, hR.link a ha6 _ _ (links_less hlk p), HF.out.putL ha6 hp16 false⟩

set_option maxRecDepth 1000000 in
set_option maxHeartbeats 4000000 in
theorem sw_all {OP : Int} {mb ab wb lb : Nat} {s : Value} {L : List (Int × Int)} {ws : Nat → Int} {ln : Nat → Nat → Bool} {a p : Nat} {z l : Int} {W w : World} {Q : Exit → Act → World → Prop}
    {c0 c1 c2 c3 c5 c8 c13 c14 c15 c16 c17 c18 c19 c20 c21 c22 c23 c24 c25 c26 c27 c28 c29 c30 c31 c32 c33 c34 c35 c36 c37 c38 c39 c40 c41 c42 c43 c44 c45 c46 c47 c48 c49 c50 c51 c52 c53 c54 c55 c56 c57 c58 c59 c60 c61 c62 c63 c64 c65 c66 c67 c68 c69 c70 c71 c73 c74 c75 c76 c77 c78 c79 c80 c81 c82 c83 c84 c85 c86 c87 c88 c89 c90 c91 c92 c93 c94 c95 c96 c97 c98 c99 c100 c101 c102 c103 c104 c105 c106 c107 c108 c109 c110 c111 c112 c113 c114 c115 c116 c117 c118 c119 c120 c121 c122 c123 c124 c125 c126 c127 c128 c129 c130 c131 c132 c133 c134 c135 c136 c137 c138 c139 c140 c141 c142 c143 c144 c145 c146 c147 c148 c149 c150 c151 c152 c153 c154 c155 c156 c157 c158 c159 c160 c161 c162 c163 c164 c165 c166 c167 c168 c169 c170 c171 c172 c173 c174 c175 c176 c177 c178 c179 c180 c181 c182 c183 c184 c185 c186 c187 c188 c189 c190 c191 c192 c193 c194 c195 c196 c197 c198 c199 : Value}
    (hR : Rel L ws ln) (hB : Bare W w mb ab wb lb s L ws ln) (ha6 : a < 6) (hp16 : p < 16) (hk : L[a]? = some (ws a, l)) (hlk : LinksTo (ln a) 16 l)
    (hQ : ∀ (d12 d13 d14 d15 d16 d17 d18 d19 d20 d73 d74 d75 d76 d77 d78 d79 d80 d81 d82 d83 d84 d85 d86 d87 d88 d89 d90 d91 d92 d93 d94 d95 d96 d97 d98 d99 d100 d101 d102 d103 d104 d105 d106 d107 d108 d109 d110 d111 d112 d113 d114 d115 d116 d117 d118 d119 d120 d121 d122 d123 d124 d125 d126 d127 d128 d129 d130 d131 d132 d133 d134 d135 d136 d137 d138 d139 d140 d141 d142 d143 d144 d145 d146 d147 d148 d149 d150 d151 d152 d153 d154 d155 d156 d157 d158 d159 d160 d161 d162 d163 : Value) (w' : World), CutR W mb ab wb lb s L ws ln a z d12 w' → Q .normal ⟨#[c0, c1, c2, c3, .pointer (some ⟨mb, 0, none⟩), c5, .pointer (some ⟨wb, 0, none⟩), .pointer (some ⟨lb, 0, none⟩), c8, .int .i64 (p : Nat), .int .i64 (a : Nat), .int .u64 z, d12, d13, d14, d15, d16, d17, d18, d19, d20, c21, c22, c23, c24, c25, c26, c27, c28, c29, c30, c31, c32, c33, c34, c35, c36, c37, c38, c39, c40, c41, c42, c43, c44, c45, c46, c47, c48, c49, c50, c51, c52, c53, c54, c55, c56, c57, c58, c59, c60, c61, c62, c63, c64, c65, c66, c67, c68, c69, c70, c71, .int .i64 OP, d73, d74, d75, d76, d77, d78, d79, d80, d81, d82, d83, d84, d85, d86, d87, d88, d89, d90, d91, d92, d93, d94, d95, d96, d97, d98, d99, d100, d101, d102, d103, d104, d105, d106, d107, d108, d109, d110, d111, d112, d113, d114, d115, d116, d117, d118, d119, d120, d121, d122, d123, d124, d125, d126, d127, d128, d129, d130, d131, d132, d133, d134, d135, d136, d137, d138, d139, d140, d141, d142, d143, d144, d145, d146, d147, d148, d149, d150, d151, d152, d153, d154, d155, d156, d157, d158, d159, d160, d161, d162, d163, c164, c165, c166, c167, c168, c169, c170, c171, c172, c173, c174, c175, c176, c177, c178, c179, c180, c181, c182, c183, c184, c185, c186, c187, c188, c189, c190, c191, c192, c193, c194, c195, c196, c197, c198, c199], []⟩ w') (hop : OP = 0 ∨ OP = 1 ∨ OP = 2 ∨ OP = 3 ∨ OP = 4 ∨ OP = 5) :
    Code.wp Try.prog sw Q ⟨#[c0, c1, c2, c3, .pointer (some ⟨mb, 0, none⟩), c5, .pointer (some ⟨wb, 0, none⟩), .pointer (some ⟨lb, 0, none⟩), c8, .int .i64 (p : Nat), .int .i64 (a : Nat), .int .u64 z, .bool false, c13, c14, c15, c16, c17, c18, c19, c20, c21, c22, c23, c24, c25, c26, c27, c28, c29, c30, c31, c32, c33, c34, c35, c36, c37, c38, c39, c40, c41, c42, c43, c44, c45, c46, c47, c48, c49, c50, c51, c52, c53, c54, c55, c56, c57, c58, c59, c60, c61, c62, c63, c64, c65, c66, c67, c68, c69, c70, c71, .int .i64 OP, c73, c74, c75, c76, c77, c78, c79, c80, c81, c82, c83, c84, c85, c86, c87, c88, c89, c90, c91, c92, c93, c94, c95, c96, c97, c98, c99, c100, c101, c102, c103, c104, c105, c106, c107, c108, c109, c110, c111, c112, c113, c114, c115, c116, c117, c118, c119, c120, c121, c122, c123, c124, c125, c126, c127, c128, c129, c130, c131, c132, c133, c134, c135, c136, c137, c138, c139, c140, c141, c142, c143, c144, c145, c146, c147, c148, c149, c150, c151, c152, c153, c154, c155, c156, c157, c158, c159, c160, c161, c162, c163, c164, c165, c166, c167, c168, c169, c170, c171, c172, c173, c174, c175, c176, c177, c178, c179, c180, c181, c182, c183, c184, c185, c186, c187, c188, c189, c190, c191, c192, c193, c194, c195, c196, c197, c198, c199], []⟩ w := by
  rcases hop with rfl | rfl | rfl | rfl | rfl | rfl
  · exact sw_load hR hB ha6 hp16 hk hlk hQ
  · exact sw_store hR hB ha6 hp16 hk hlk hQ
  · exact sw_ll hR hB ha6 hp16 hk hlk hQ
  · exact sw_vl hR hB ha6 hp16 hk hlk hQ
  · exact sw_sc hR hB ha6 hp16 hk hlk hQ
  · exact sw_rl hR hB ha6 hp16 hk hlk hQ

noncomputable def ck : Code := (Try.f4.body.bind (findBlock 3)).getD .skip

set_option maxRecDepth 1000000 in
set_option maxHeartbeats 4000000 in
theorem ck_all {mb g wb lb : Nat} {L2 : List (Int × Int)} {ws2 : Nat → Int} {ln2 : Nat → Nat → Bool} {W w : World} {Q : Exit → Act → World → Prop}
    {c0 c1 c2 c3 c5 c8 c9 c10 c11 c12 c13 c14 c15 c16 c17 c18 c19 c20 c22 c23 c24 c25 c26 c27 c28 c29 c30 c31 c32 c33 c34 c35 c36 c37 c38 c39 c40 c41 c42 c43 c44 c45 c46 c47 c48 c49 c50 c51 c52 c53 c54 c55 c56 c57 c58 c59 c60 c61 c62 c63 c64 c65 c66 c67 c68 c69 c70 c71 c72 c73 c74 c75 c76 c77 c78 c79 c80 c81 c82 c83 c84 c85 c86 c87 c88 c89 c90 c91 c92 c93 c94 c95 c96 c97 c98 c99 c100 c101 c102 c103 c104 c105 c106 c107 c108 c109 c110 c111 c112 c113 c114 c115 c116 c117 c118 c119 c120 c121 c122 c123 c124 c125 c126 c127 c128 c129 c130 c131 c132 c133 c134 c135 c136 c137 c138 c139 c140 c141 c142 c143 c144 c145 c146 c147 c148 c149 c150 c151 c152 c153 c154 c155 c156 c157 c158 c159 c160 c161 c162 c163 c164 c165 c166 c167 c168 c169 c170 c171 c172 c173 c174 c175 c176 c177 c178 c179 c180 c181 c182 c183 c184 c185 c186 c187 c188 c189 c190 c191 c192 c193 c194 c195 c196 c197 c198 c199 : Value} (hR2 : Rel L2 ws2 ln2) (hB : Bare W w mb g wb lb (.slice (some ⟨g, 0, none⟩) 6 6) L2 ws2 ln2)
    (hQ : ∀ (d2 d21 d22 d23 d171 d172 d173 d174 d175 d176 d177 d178 d179 d180 d181 d182 d183 d184 d185 d186 d187 d188 d189 d190 d191 d192 d193 d194 d195 d196 d197 d198 : Value) (w' : World), Bare W w' mb g wb lb (.slice (some ⟨g, 0, none⟩) 6 6) L2 ws2 ln2 → Q .normal ⟨#[c0, c1, d2, c3, .pointer (some ⟨mb, 0, none⟩), c5, .pointer (some ⟨wb, 0, none⟩), .pointer (some ⟨lb, 0, none⟩), c8, c9, c10, c11, c12, c13, c14, c15, c16, c17, c18, c19, c20, d21, d22, d23, c24, c25, c26, c27, c28, c29, c30, c31, c32, c33, c34, c35, c36, c37, c38, c39, c40, c41, c42, c43, c44, c45, c46, c47, c48, c49, c50, c51, c52, c53, c54, c55, c56, c57, c58, c59, c60, c61, c62, c63, c64, c65, c66, c67, c68, c69, c70, c71, c72, c73, c74, c75, c76, c77, c78, c79, c80, c81, c82, c83, c84, c85, c86, c87, c88, c89, c90, c91, c92, c93, c94, c95, c96, c97, c98, c99, c100, c101, c102, c103, c104, c105, c106, c107, c108, c109, c110, c111, c112, c113, c114, c115, c116, c117, c118, c119, c120, c121, c122, c123, c124, c125, c126, c127, c128, c129, c130, c131, c132, c133, c134, c135, c136, c137, c138, c139, c140, c141, c142, c143, c144, c145, c146, c147, c148, c149, c150, c151, c152, c153, c154, c155, c156, c157, c158, c159, c160, c161, c162, c163, c164, c165, c166, c167, c168, c169, c170, d171, d172, d173, d174, d175, d176, d177, d178, d179, d180, d181, d182, d183, d184, d185, d186, d187, d188, d189, d190, d191, d192, d193, d194, d195, d196, d197, d198, c199], []⟩ w') :
    Code.wp Try.prog ck Q ⟨#[c0, c1, c2, c3, .pointer (some ⟨mb, 0, none⟩), c5, .pointer (some ⟨wb, 0, none⟩), .pointer (some ⟨lb, 0, none⟩), c8, c9, c10, c11, c12, c13, c14, c15, c16, c17, c18, c19, c20, .int .i64 0, c22, c23, c24, c25, c26, c27, c28, c29, c30, c31, c32, c33, c34, c35, c36, c37, c38, c39, c40, c41, c42, c43, c44, c45, c46, c47, c48, c49, c50, c51, c52, c53, c54, c55, c56, c57, c58, c59, c60, c61, c62, c63, c64, c65, c66, c67, c68, c69, c70, c71, c72, c73, c74, c75, c76, c77, c78, c79, c80, c81, c82, c83, c84, c85, c86, c87, c88, c89, c90, c91, c92, c93, c94, c95, c96, c97, c98, c99, c100, c101, c102, c103, c104, c105, c106, c107, c108, c109, c110, c111, c112, c113, c114, c115, c116, c117, c118, c119, c120, c121, c122, c123, c124, c125, c126, c127, c128, c129, c130, c131, c132, c133, c134, c135, c136, c137, c138, c139, c140, c141, c142, c143, c144, c145, c146, c147, c148, c149, c150, c151, c152, c153, c154, c155, c156, c157, c158, c159, c160, c161, c162, c163, c164, c165, c166, c167, c168, c169, c170, c171, c172, c173, c174, c175, c176, c177, c178, c179, c180, c181, c182, c183, c184, c185, c186, c187, c188, c189, c190, c191, c192, c193, c194, c195, c196, c197, c198, c199], []⟩ w := by
  conv => arg 2; whnf
  have HB := Lib.hid hB
  clear hB
  go_wp2_with (fail)
  go_loopw [21] (fun i w => ∃ q : Nat, q ≤ 6 ∧ i = .int .i64 q ∧ Bare W w mb g wb lb (.slice (some ⟨g, 0, none⟩) 6 6) L2 ws2 ln2) (fun i _ => (6 - intOf i).toNat)
  case atStart => exact ⟨0, by omega, rfl, HB.out⟩
  case round =>
    clear HB
    obtain ⟨q, q6, rfl, hB⟩ := hrel
    by_cases hq6 : q < 6
    · have hq6' : (q : Int) < 6 := by omega
      obtain ⟨y0, hy, hly⟩ := hR2.2 q hq6
      have HY := Lib.hid hy
      have hm := hB.own.mem.m
      obtain ⟨hx, hl2, _, _⟩ := hB.own.mem.row q _ hy
      have hw2 := (hB.wd q hq6).1
      clear hy
      have HB := Lib.hid hB
      clear hB
      go_wp2_with (fail)
      go_loop [22, 23] (fun lk j => ∃ jj y : Int, 0 ≤ jj ∧ jj ≤ 16 ∧ j = .int .i64 jj ∧ lk = .int .i64 y ∧ LinksTo (ln2 q) jj y) (fun _ j => (16 - intOf j).toNat)
      case atStart => exact ⟨0, 0, by omega, by omega, rfl, rfl, links0 _⟩
      case round =>
        obtain ⟨jj, y, j0, j1, rfl, rfl, hly2⟩ := hrel
        by_cases hj : jj < 16
        · have hc2 := (HB.out.ln q jj.toNat hq6 (by omega)).1
          cases hb2 : ln2 q jj.toNat
          · rw [hb2] at hc2
            have hnext := links_no hly2 j0 hb2
            clear hb2 hly2
            go_wp2
            go_round
            case rel => exact ⟨jj + 1, y, by omega, by omega, rfl, rfl, hnext⟩
            case measure => simp [intOf]; omega
          · rw [hb2] at hc2
            have hnext := links_yes hly2 j0 hj hb2
            clear hb2 hly2
            have hw64 : RowKit.wrap64 (2 ^ jj.toNat) = bit jj := by
              have := bit_bd jj j0 hj
              unfold bit at *
              simp only [RowKit.wrap64]
              omega
            go_wp2
            go_round
            case rel => exact ⟨jj + 1, withP y jj, by omega, by omega, rfl, rfl, hnext⟩
            case measure => simp [intOf]; omega
        · have hj16 : jj = 16 := by omega
          subst hj16
          have hyy := links_one hly2 hly
          subst hyy
          clear hly hly2
          go_wp2_with (fail)
          go_quiet (fail)
          go_wp2
          go_roundw
          case rel => exact ⟨q + 1, by omega, by go_num, HB.out.drewN _⟩
          case measure => simp [intOf]; omega
    · have HB := Lib.hid hB
      clear hB
      go_wp2
      exact HB.out

end Go.Proofs.Ythegokjhgdneoaa.cellsOne
