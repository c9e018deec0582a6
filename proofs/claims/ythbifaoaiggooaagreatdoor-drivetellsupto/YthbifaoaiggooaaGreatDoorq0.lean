import Derived.WalkKit
import Derived.Deep.AppendLies
import Derived.Deep.Draws
import Derived.WalkSmall
import Derived.Shelf.Strings.BuilderK
import Derived.Shelf.Strconv.Itoa1
import Derived.Test.YthbifaoaiggooaaGreatDoorRows
import Derived.WalkSpells
import Derived.Deep.QuietTactic
import Derived.BigQuiet
import Derived.Shelf.Strconv.Itoa3
import Derived.Shelf.Strconv.AtoiAll
import Derived.Shelf.Strings.OnBuilder
import Derived.Lib.AppendIntMem
import Derived.Shelf.Small.Wraps
import Derived.Shelf.Strings.Search2
import Derived.Lib.CutLaws
import Derived.BigCall
import Derived.BigGuard
import Derived.Lib.BufferMore
import Derived.Deep.Cut
import Derived.Laws.AppendOwnNone
import Derived.OwnWalk
set_option maxHeartbeats 3200000
set_option maxRecDepth 100000
namespace Go.Proofs.YthbifaoaiggooaaGreatDoor
theorem af{α:Sort _}(a:α):∃x,a=x:=⟨a,rfl⟩
theorem JI:type_of% @Array.getElem?_eq_getElem:= @Array.getElem?_eq_getElem
theorem dx:type_of% @Array.getElem?_eq_some_iff:= @Array.getElem?_eq_some_iff
theorem JJ:type_of% @Array.getElem?_toList:= @Array.getElem?_toList
theorem bG:type_of% @Bool.and_eq_true:= @Bool.and_eq_true
theorem dO:type_of% @Bool.false_eq_true:= @Bool.false_eq_true
theorem Dq:type_of% @Bool.false_or:= @Bool.false_or
theorem FE:type_of% @Bool.not_eq_true':= @Bool.not_eq_true'
theorem wN:type_of% @Bool.true_and:= @Bool.true_and
theorem Dr:type_of% @Classical.byContradiction:= @Classical.byContradiction
theorem su:type_of% @Int.le_refl:= @Int.le_refl
theorem aF:type_of% @Int.natCast_nonneg:= @Int.natCast_nonneg
theorem zZ:type_of% @List.all_append:= @List.all_append
theorem FH:type_of% @List.all_eq_false:= @List.all_eq_false
theorem qO:type_of% @List.all_eq_true:= @List.all_eq_true
theorem mG:type_of% @List.append_assoc:= @List.append_assoc
theorem qp:type_of% @List.append_nil:= @List.append_nil
theorem FI:type_of% @List.drop_append_of_le_length:= @List.drop_append_of_le_length
theorem wO:type_of% @List.drop_eq_getElem_cons:= @List.drop_eq_getElem_cons
theorem qP:type_of% @List.drop_succ_cons:= @List.drop_succ_cons
theorem om:type_of% @List.drop_zero:= @List.drop_zero
theorem wP:type_of% @List.ext_getElem:= @List.ext_getElem
theorem FJ:type_of% @List.ext_getElem?:= @List.ext_getElem?
theorem Dt:type_of% @List.filter_append:= @List.filter_append
theorem vk:type_of% @List.filter_cons:= @List.filter_cons
theorem qQ:type_of% @List.flatMap_append:= @List.flatMap_append
theorem gV:type_of% @List.flatMap_cons:= @List.flatMap_cons
theorem FK:type_of% @List.foldl_append:= @List.foldl_append
theorem vo:type_of% @List.getElem?_append_left:= @List.getElem?_append_left
theorem o9:type_of% @List.getElem?_append_right:= @List.getElem?_append_right
theorem JK:type_of% @List.getElem?_drop:= @List.getElem?_drop
theorem pq:type_of% @List.getElem?_eq_getElem:= @List.getElem?_eq_getElem
theorem nJ:type_of% @List.getElem?_eq_none:= @List.getElem?_eq_none
theorem JL:type_of% @List.getElem?_eq_none_iff:= @List.getElem?_eq_none_iff
theorem qw:type_of% @List.getElem?_eq_some_iff:= @List.getElem?_eq_some_iff
theorem Du:type_of% @List.getElem?_set_ne:= @List.getElem?_set_ne
theorem JM:type_of% @List.getElem?_set_self:= @List.getElem?_set_self
theorem jO:type_of% @List.getElem_mem:= @List.getElem_mem
theorem kE:type_of% @List.getElem_of_mem:= @List.getElem_of_mem
theorem aS:type_of% @List.length_append:= @List.length_append
theorem pE:type_of% @List.length_drop:= @List.length_drop
theorem vv:type_of% @List.length_filter_le:= @List.length_filter_le
theorem cK:type_of% @List.length_map:= @List.length_map
theorem FL:type_of% @List.length_pos_iff:= @List.length_pos_iff
theorem qR:type_of% @List.length_range:= @List.length_range
theorem wQ:type_of% @List.length_reverse:= @List.length_reverse
theorem qU:type_of% @List.length_set:= @List.length_set
theorem fq:type_of% @List.length_take:= @List.length_take
theorem fD:type_of% @List.map_append:= @List.map_append
theorem yH:type_of% @List.map_congr_left:= @List.map_congr_left
theorem jB:type_of% @List.map_cons:= @List.map_cons
theorem oq:type_of% @List.map_nil:= @List.map_nil
theorem Dv:type_of% @List.map_set:= @List.map_set
theorem FM:type_of% @List.map_toArray:= @List.map_toArray
theorem iV:type_of% @List.mem_append:= @List.mem_append
theorem Dw:type_of% @List.mem_append_left:= @List.mem_append_left
theorem iW:type_of% @List.mem_cons:= @List.mem_cons
theorem mH:type_of% @List.mem_cons_of_mem:= @List.mem_cons_of_mem
theorem sD:type_of% @List.mem_filter:= @List.mem_filter
theorem Aa:type_of% @List.mem_flatMap:= @List.mem_flatMap
theorem jP:type_of% @List.mem_map:= @List.mem_map
theorem ou:type_of% @List.mem_of_getElem?:= @List.mem_of_getElem?
theorem BK:type_of% @List.mem_of_mem_drop:= @List.mem_of_mem_drop
theorem wR:type_of% @List.mem_of_mem_take:= @List.mem_of_mem_take
theorem jC:type_of% @List.mem_range:= @List.mem_range
theorem gG:type_of% @List.mem_singleton:= @List.mem_singleton
theorem FN:type_of% @List.nodup_cons:= @List.nodup_cons
theorem wS:type_of% @List.not_mem_nil:= @List.not_mem_nil
theorem JN:type_of% @List.pairwise_iff_getElem:= @List.pairwise_iff_getElem
theorem pF:type_of% @List.range_succ:= @List.range_succ
theorem eB:type_of% @List.setIfInBounds_toArray:= @List.setIfInBounds_toArray
theorem yI:type_of% @List.set_append_right:= @List.set_append_right
theorem Ab:type_of% @List.sum_append:= @List.sum_append
theorem wT:type_of% @List.take_append_drop:= @List.take_append_drop
theorem BL:type_of% @List.take_left:= @List.take_left
theorem gH:type_of% @List.take_length:= @List.take_length
theorem pG:type_of% @List.take_of_length_le:= @List.take_of_length_le
theorem fT:type_of% @List.take_succ_eq_append_getElem:= @List.take_succ_eq_append_getElem
theorem kF:type_of% @Nat.add_assoc:= @Nat.add_assoc
theorem FO:type_of% @Nat.eq_zero_or_pos:= @Nat.eq_zero_or_pos
theorem iQ:type_of% @Nat.le_of_lt:= @Nat.le_of_lt
theorem ah:type_of% @Nat.le_refl:= @Nat.le_refl
theorem nK:type_of% @Nat.le_succ:= @Nat.le_succ
theorem yJ:type_of% @Nat.le_succ_of_le:= @Nat.le_succ_of_le
theorem aZ:type_of% @Nat.le_trans:= @Nat.le_trans
theorem Dx:type_of% @Nat.lt_irrefl:= @Nat.lt_irrefl
theorem jg:type_of% @Nat.lt_of_lt_of_le:= @Nat.lt_of_lt_of_le
theorem Ac:type_of% @Nat.lt_or_ge:= @Nat.lt_or_ge
theorem fJ:type_of% @Nat.lt_succ_iff_lt_or_eq:= @Nat.lt_succ_iff_lt_or_eq
theorem wU:type_of% @Nat.min_eq_left:= @Nat.min_eq_left
theorem BM:type_of% @Nat.mul_le_mul_right:= @Nat.mul_le_mul_right
theorem iI:type_of% @Nat.not_lt_zero:= @Nat.not_lt_zero
theorem wV:type_of% @Nat.pow_le_pow_right:= @Nat.pow_le_pow_right
theorem wW:type_of% @Nat.sub_self:= @Nat.sub_self
theorem sH:type_of% @Nat.testBit_or:= @Nat.testBit_or
theorem Dy:type_of% @Nat.testBit_two_pow:= @Nat.testBit_two_pow
theorem eO:type_of% @Nat.zero_add:= @Nat.zero_add
theorem aP:type_of% @Nat.zero_le:= @Nat.zero_le
theorem JO:type_of% @Option.isSome_iff_exists:= @Option.isSome_iff_exists
theorem yK:type_of% @Option.map_eq_some_iff:= @Option.map_eq_some_iff
theorem yL:type_of% @Option.some.inj:= @Option.some.inj
theorem bM:type_of% @Option.some.injEq:= @Option.some.injEq
theorem qx:type_of% @Prod.mk.injEq:= @Prod.mk.injEq
theorem mI:type_of% @beq_eq_false_iff_ne:= @beq_eq_false_iff_ne
theorem Dz:type_of% @decide_eq_decide:= @decide_eq_decide
theorem aU:type_of% @decide_eq_false:= @decide_eq_false
theorem aT:type_of% @decide_eq_true:= @decide_eq_true
theorem bX:type_of% @decide_eq_true_eq:= @decide_eq_true_eq
theorem bN:type_of% @if_false:= @if_false
theorem aj:type_of% @if_neg:= @if_neg
theorem au:type_of% @if_pos:= @if_pos
theorem bQ:type_of% @if_true:= @if_true
theorem wX:type_of% @of_decide_eq_true:= @of_decide_eq_true
theorem wY:type_of% @or_false:= @or_false
abbrev Sy:=Bool×Int
abbrev Ru:=Int×List Sy
end Go.Proofs.YthbifaoaiggooaaGreatDoor
namespace Go.Proofs.YthbifaoaiggooaaGreatDoor
open Go.RowKit
theorem sJ:type_of% @Go.RowKit.Below.heap_alloc:= @Go.RowKit.Below.heap_alloc
theorem gm:type_of% @Go.RowKit.Below.heap_setCell:= @Go.RowKit.Below.heap_setCell
theorem ai:type_of% @Go.RowKit.Below.refl:= @Go.RowKit.Below.refl
theorem uE:type_of% @Go.IntWalk.i64_in:= @Go.IntWalk.i64_in
theorem FP:type_of% @Go.Region.free_spec:= @Go.Region.free_spec
theorem FQ:type_of% @Go.Region.noSelect_spec:= @Go.Region.noSelect_spec
theorem aQ:type_of% @Go.World.block_lt_of_cell?:= @Go.World.block_lt_of_cell?
theorem dB:type_of% @Go.World.cell?_alloc_past:= @Go.World.cell?_alloc_past
theorem pI:type_of% @Go.World.cell?_of_block:= @Go.World.cell?_of_block
theorem BN:type_of% @Go.World.cell?_setCell_other:= @Go.World.cell?_setCell_other
theorem Ae:type_of% @Go.World.cell?_setCell_same:= @Go.World.cell?_setCell_same
theorem JQ:type_of% @Go.World.frozen?_setCell:= @Go.World.frozen?_setCell
theorem jh:type_of% @Go.World.news_of_block:= @Go.World.news_of_block
theorem sM:type_of% @Go.World.ownsRow_lit:= @Go.World.ownsRow_lit
theorem ji:type_of% @Go.World.ownsRow_nil:= @Go.World.ownsRow_nil
theorem lU:type_of% @Go.World.size_alloc:= @Go.World.size_alloc
theorem iR:type_of% @Go.below_drewN:= @Go.below_drewN
theorem aH:type_of% @Go.bodyPost_ret:= @Go.bodyPost_ret
theorem fK:type_of% @Go.info_parts:= @Go.info_parts
theorem Af:type_of% @Go.results_none:= @Go.results_none
theorem wZ:type_of% @Go.step_append_lies:= @Go.step_append_lies
theorem ow:type_of% @Go.wpList_append_lies:= @Go.wpList_append_lies
theorem xg:type_of% @Go.wpStill_nil:= @Go.wpStill_nil
def aG(w:World)(lim:Nat)(rv:Value)(R:List Ru):Prop:=
 (∃ra rc,rv= .slice ra R.length rc)/\
 ∀q,q<R.length->∃b o rc qa qc,rv= .slice (some ⟨b,o,none⟩) R.length rc/\b<lim/\
  w.cell? ⟨b,o+q*2,none⟩=some (.int .i64 (R.getD q (0,[])).1)/\
  w.cell? ⟨b,o+(q*2+1),none⟩=some (.slice qa (R.getD q (0,[])).2.length qc)/\(R.getD q (0,[])).2.length<=qc/\
  ∀j,j<(R.getD q (0,[])).2.length->∃b' o',qa=some ⟨b',o',none⟩/\b'<lim/\
   w.cell? ⟨b',o'+j*2,none⟩=some (.bool ((R.getD q (0,[])).2.getD j (false,0)).1)/\
   w.cell? ⟨b',o'+(j*2+1),none⟩=some (.int .i64 ((R.getD q (0,[])).2.getD j (false,0)).2)
def aY(w:World)(lim:Nat)(dv:Value)(D:List Int):Prop:=
 (∃da dc,dv= .slice da D.length dc)/\
 ∀p,p<D.length->∃b o dc,dv= .slice (some ⟨b,o,none⟩) D.length dc/\b<lim/\w.cell? ⟨b,o+p,none⟩=some (.int .i64 (D.getD p 0))
theorem aG.below{B:Nat}{w w':World}{rv:Value}{R:List Ru}(h:aG w B rv R)(hb:Below B w w'):aG w' B rv R:=by
 refine⟨h.1,λq hq=> ?_⟩;obtain⟨b,o,rc,qa,qc,h1,h2,h3,h4,h6,h5⟩:=h.2 q hq;refine⟨b,o,rc,qa,qc,h1,h2,(hb.cell h2).trans h3,(hb.cell h2).trans h4,h6,λj hj=> ?_⟩;obtain⟨b',o',k1,k2,k3,k4⟩:=h5 j hj;exact⟨b',o',k1,k2,(hb.cell k2).trans k3,(hb.cell k2).trans k4⟩
theorem aY.below{B:Nat}{w w':World}{dv:Value}{D:List Int}(h:aY w B dv D)(hb:Below B w w'):aY w' B dv D:=by
 refine⟨h.1,λp hp=> ?_⟩;obtain⟨b,o,dc,h1,h2,h3⟩:=h.2 p hp;exact⟨b,o,dc,h1,h2,(hb.cell h2).trans h3⟩
theorem aG.mono{B B':Nat}{w:World}{rv:Value}{R:List Ru}(h:aG w B rv R)(hb:B<=B'):aG w B' rv R:=by
 refine⟨h.1,λq hq=> ?_⟩;obtain⟨b,o,rc,qa,qc,h1,h2,h3,h4,h6,h5⟩:=h.2 q hq;refine⟨b,o,rc,qa,qc,h1,by omega,h3,h4,h6,λj hj=> ?_⟩;obtain⟨b',o',k1,k2,k3,k4⟩:=h5 j hj;exact⟨b',o',k1,by omega,k3,k4⟩
theorem aY.mono{B B':Nat}{w:World}{dv:Value}{D:List Int}(h:aY w B dv D)(hb:B<=B'):aY w B' dv D:=by
 refine⟨h.1,λp hp=> ?_⟩;obtain⟨b,o,dc,h1,h2,h3⟩:=h.2 p hp;exact⟨b,o,dc,h1,by omega,h3⟩
theorem cO{w:World}{base:Nat}{e:TypeId}{size:Nat}{v:Value}{n:Nat}{xs:List Value}(h:w.ownsRow base e size v n xs):∃a c,v= .slice a n c:=by
 rcases h.2 with⟨rfl,rfl⟩|⟨g,cap,_,rfl,_⟩
 ·exact⟨_,_,rfl⟩
 ·exact⟨_,_,rfl⟩
theorem lq{w:World}{base base':Nat}{e:TypeId}{size:Nat}{v:Value}{n:Nat}{xs:List Value}(h:w.ownsRow base e size v n xs)(hb:base'<=base):w.ownsRow base' e size v n xs:=by
 refine⟨h.1,?_⟩;rcases h.2 with h2|⟨g,cap,cur,h1,h2,h3⟩
 ·exact .inl h2
 ·exact .inr ⟨g,cap,cur,h1,by omega,h3⟩
theorem own_below{B base:Nat}{e:TypeId}{size:Nat}{v:Value}{n:Nat}{xs:List Value}{w w':World}(h:w.ownsRow base e size v n xs)(hb:Below B w w')(hv:∀g,v.ownBlock=some g->g<B):w'.ownsRow base e size v n xs:=by
 refine⟨h.1,?_⟩;rcases h.2 with h2|⟨g,cap,cur,rfl,h2,h3,h4⟩
 ·exact .inl h2
 ·exact .inr ⟨g,cap,cur,rfl,h2,(hb.block g (hv g rfl)).trans h3,h4⟩
theorem aG.boxed{w:World}{rv:Value}{R:List Ru}(h:aG w w.heap.size rv R)(o:Obj):aG (w.alloc o) (w.alloc o).heap.size rv R:=
 (h.below ((Below.refl _ _).alloc (ah _) o)).mono (by simp)
theorem aY.boxed{w:World}{dv:Value}{D:List Int}(h:aY w w.heap.size dv D)(o:Obj):aY (w.alloc o) (w.alloc o).heap.size dv D:=
 (h.below ((Below.refl _ _).alloc (ah _) o)).mono (by simp)
theorem jW{w:World}{a c:Addr}{u:Value}(h:a.block≠c.block\/a.off≠c.off):(w.setCell c u).cell? a=w.cell? a:=by
 rw[World.cell?_setCell_other];intro e;subst e;rcases h with h|h<;>exact h rfl
def iy(w:World)(lim:Nat)(qa:Option Addr)(Rt:List Sy):Prop:=
 ∀j,j<Rt.length->∃b' o',qa=some ⟨b',o',none⟩/\b'<lim/\
  w.cell? ⟨b',o'+j*2,none⟩=some (.bool (Rt.getD j (false,0)).1)/\
  w.cell? ⟨b',o'+(j*2+1),none⟩=some (.int .i64 (Rt.getD j (false,0)).2)
theorem iy.below{B:Nat}{w w':World}{qa:Option Addr}{Rt:List Sy}(h:iy w B qa Rt)(hb:Below B w w'):iy w' B qa Rt:=λj hj=>by
 obtain⟨b',o',k1,k2,k3,k4⟩:=h j hj;exact⟨b',o',k1,k2,(hb.cell k2).trans k3,(hb.cell k2).trans k4⟩
theorem iy.mono{B B':Nat}{w:World}{qa:Option Addr}{Rt:List Sy}(h:iy w B qa Rt)(hb:B<=B'):iy w B' qa Rt:=λj hj=>by
 obtain⟨b',o',k1,k2,k3,k4⟩:=h j hj;exact⟨b',o',k1,by omega,k3,k4⟩
end Go.Proofs.YthbifaoaiggooaaGreatDoor
namespace Go.Proofs.YthbifaoaiggooaaGreatDoor
open Go.Shelf Go.RowKit
def Tryz.buW_ren:Go.Shelf.Ren:=⟨λ|166=>14|240=>40|276=>77|n=>n,λ|0=>0|3=>3|4=>4|9=>9|20=>20|37=>46|70=>45|72=>48|75=>54|164=>145|5=>5|80=>51|n=>n,λ|n=>n⟩
theorem Tryz.buW:Go.Proofs.Lays.n166 Tryz.prog Tryz.buW_ren:=by repeat' (first|kernel_rfl|(intro _;kernel_rfl)|decide|constructor)
theorem Tryz.buWx:Builder.Extra Tryz.prog Tryz.buW_ren:=by repeat' (first|kernel_rfl|(intro _;kernel_rfl)|decide|constructor)
def Tryz.buS_ren:Go.Shelf.Ren:=⟨λ|169=>15|n=>n,λ|0=>0|3=>3|9=>9|37=>46|70=>45|72=>48|127=>91|5=>5|n=>n,λ|n=>n⟩
theorem Tryz.buS:Go.Proofs.Lays.n169 Tryz.prog Tryz.buS_ren:=by repeat' (first|kernel_rfl|(intro _;kernel_rfl)|decide|constructor)
theorem Tryz.buSx:Builder.Extra Tryz.prog Tryz.buS_ren:=by repeat' (first|kernel_rfl|(intro _;kernel_rfl)|decide|constructor)
def Tryz.small_ren:Go.Shelf.Ren:=⟨λ|283=>153|n=>n,λ|3=>3|4=>4|9=>9|n=>n,λ|n=>n⟩
theorem Tryz.small:Go.Proofs.Lays.n283 Tryz.prog Tryz.small_ren:=by repeat' (first|kernel_rfl|(intro _;kernel_rfl)|decide|constructor)
theorem aaL(i:Nat)(h:i<100)(w:World):Calls Tryz.prog 153 #[.int .i64 i] w λe w'=>e= .returned (.string ⟨(Lib.decDigits i).toArray⟩)/\w'=w:=Any.internal_strconv_small Tryz.small i h w
theorem aaM(i:Nat)(h:i<100)(w:World):Calls Tryz.prog 128 #[.int .i64 i,.int .i64 10] w λe w'=>e= .returned (.string ⟨(Lib.decDigits i).toArray⟩)/\w'=w:=by
 have sm:=aaL i h w;have i0:decide ((0:Int)<=(i:Int))=true:=aT (by omega);have i1:decide ((i:Int)<100)=true:=aT (by omega);have i2:decide (i<100)=true:=aT h;clear h
 go_enter Tryz.func128,Tryz.ntmps128
 go_wp2_with (go_at_call 153;refine sm.mono ?_;rintro e w2 ⟨rfl,h2⟩;obtain rfl:w=w2:=h2.symm;clear sm)
 go_ret;exact⟨rfl,rfl⟩
theorem aaN(i:Nat)(h:i<100)(w:World):Calls Tryz.prog 94 #[.int .i64 i] w λe w'=>e= .returned (.string ⟨(Lib.decDigits i).toArray⟩)/\w'=w:=by
 have sm:=aaM i h w;clear h
 go_enter Tryz.func94,Tryz.ntmps94
 go_wp2_with (go_at_call 128;refine sm.mono ?_;rintro e w2 ⟨rfl,h2⟩;obtain rfl:w=w2:=h2.symm;clear sm)
 go_ret;exact⟨rfl,rfl⟩
theorem JR(i:Nat)(h:i<100)(w:World):Calls Tryz.prog 55 #[.int .i64 i] w λe w'=>e= .returned (.string ⟨(Lib.decDigits i).toArray⟩)/\w'=w:=by
 have sm:=aaN i h w;clear h
 go_enter Tryz.func55,Tryz.ntmps55
 go_wp2_with (go_at_call 94;refine sm.mono ?_;rintro e w2 ⟨rfl,h2⟩;obtain rfl:w=w2:=h2.symm;clear sm)
 go_ret;exact⟨rfl,rfl⟩
theorem aaO(B b:Nat)(bs:List Value)(s:ByteArray)(w:World)(h:Lib.IsBuilderF 48 5 B b bs w)(hlen:bs.length+s.size<=140737488355328)(hBw:B<=w.heap.size):
 Calls Tryz.prog 14 #[.pointer (some ⟨b,0,none⟩),.string s] w λe w'=>e= .returned (.tuple #[.int .i64 s.size,.nilIface])/\(Lib.BuilderAtF 48 5 B b (.pointer (some ⟨b,0,none⟩)) (bs++Lib.strCells s) w'/\Below B w w'/\Lib.OthersKept 5 (some b) w w'):=Any.Builder_WriteString_k Tryz.buW Tryz.buWx B b bs s w h hlen hBw
theorem R3(B b:Nat)(l:List UInt8)(w:World)(h:Lib.IsBuilderF 48 5 B b (Lib.byteCells l) w)(hBw:B<=w.heap.size):
 Calls Tryz.prog 15 #[.pointer (some ⟨b,0,none⟩)] w λe w'=>e= .returned (.string ⟨l.toArray⟩)/\(Lib.IsBuilderF 48 5 B b (Lib.byteCells l) w'/\Below B w w'/\Lib.OthersKept 5 (some b) w w'):=Any.Builder_String_any_k Tryz.buS Tryz.buSx B b l w h hBw
noncomputable def Tryz.itoa_ren:Go.Shelf.Ren:=⟨λ|129=>173|171=>55|243=>94|246=>128|283=>153|284=>154|285=>155|286=>156|317=>172|318=>174|319=>175|320=>176|337=>197|338=>198|n=>n,λ|0=>0|2=>2|3=>3|4=>4|5=>5|9=>9|20=>20|37=>46|46=>197|51=>166|53=>234|171=>233|173=>237|212=>260|213=>261|232=>291|233=>292|n=>n,λ|17=>(Tryz.prog.globals.findIdx? (λx=>x.name== "internal/strconv.uint64pow10")).getD 0|18=>(Tryz.prog.globals.findIdx? (λx=>x.name== "math/bits.deBruijn32tab")).getD 0|19=>(Tryz.prog.globals.findIdx? (λx=>x.name== "math/bits.deBruijn64tab")).getD 0|n=>n⟩
theorem Tryz.itoa:Go.Proofs.LaysM.n171 Tryz.prog Tryz.itoa_ren:=by repeat' (first|kernel_rfl|(intro _;kernel_rfl)|decide|constructor)
theorem R4(n:Int)(h0: -9223372036854775808<=n)(h1:n<=9223372036854775807)(w:World)(ht:Lib.TabIs Tryz.prog w "internal/strconv.uint64pow10" .u64 Lib.pow10Tab):
 Calls Tryz.prog 55 #[.int .i64 n] w λe w'=>e= .returned (.string ⟨(Lib.itoa n).toArray⟩)/\Below w.heap.size w w':=by
 refine(Any.strconv_Itoa Tryz.itoa n h0 h1 w ht).mono ?_;rintro e w' ⟨h,k,os,rfl⟩;exact⟨h,Lib.below_grow _ w (ah _) k os⟩
noncomputable def Tryz.atoi_ren:Go.Shelf.Ren:=⟨λ|129=>173|171=>55|172=>143|205=>201|243=>94|244=>167|245=>168|246=>128|247=>183|279=>184|280=>185|281=>186|282=>187|283=>153|284=>154|285=>155|286=>156|287=>199|316=>200|317=>172|318=>174|319=>175|320=>176|321=>207|322=>208|337=>197|338=>198|n=>n,λ|0=>0|2=>2|3=>3|4=>4|5=>5|9=>9|20=>20|21=>21|37=>46|46=>197|51=>166|53=>234|75=>54|76=>55|80=>51|85=>267|127=>91|143=>294|145=>296|167=>266|168=>269|171=>233|173=>237|175=>280|210=>283|212=>260|213=>261|232=>291|233=>292|n=>n,λ|15=>(Tryz.prog.globals.findIdx? (λx=>x.name== "strconv.ErrSyntax")).getD 0|16=>(Tryz.prog.globals.findIdx? (λx=>x.name== "strconv.ErrRange")).getD 0|17=>(Tryz.prog.globals.findIdx? (λx=>x.name== "internal/strconv.uint64pow10")).getD 0|18=>(Tryz.prog.globals.findIdx? (λx=>x.name== "math/bits.deBruijn32tab")).getD 0|19=>(Tryz.prog.globals.findIdx? (λx=>x.name== "math/bits.deBruijn64tab")).getD 0|n=>n⟩
theorem Tryz.atoi:Go.Proofs.LaysC.n172 Tryz.prog Tryz.atoi_ren:=by repeat' (first|kernel_rfl|(intro _;kernel_rfl)|decide|constructor)
theorem aaP(s:List UInt8)(hs:s.length<=281474976710656)(v:Int)(h:Lib.atoiAll s= .ok v)(w:World):
 Calls Tryz.prog 143 #[.string ⟨s.toArray⟩] w λe w'=>e= .returned (.tuple #[.int .i64 v,.nilIface])/\Below w.heap.size w w':=by
 refine(Any.strconv_Atoi_ok Tryz.atoi ⟨s.toArray⟩ (by simp[ByteArray.size];omega) v (by simpa using h) w).mono ?_;rintro e w' ⟨h,h2⟩;refine⟨h,?_⟩;rcases h2 with rfl|⟨t,rfl⟩
 ·exact ai _ _
 ·exact Lib.bytesWorld_below _ _ _
def Tryz.join_ren:Go.Shelf.Ren:=⟨λ|156=>110|165=>142|166=>14|169=>15|240=>40|241=>166|276=>77|277=>182|n=>n,λ|0=>0|3=>3|4=>4|5=>5|9=>9|20=>20|31=>22|37=>46|70=>45|72=>48|75=>54|76=>55|80=>51|127=>91|164=>145|n=>n,λ|n=>n⟩
theorem Tryz.join:Go.Proofs.Lays.n156 Tryz.prog Tryz.join_ren:=by repeat' (first|kernel_rfl|(intro _;kernel_rfl)|decide|constructor)
theorem Tryz.joinx:Builder.Extra Tryz.prog Tryz.join_ren:=by repeat' (first|kernel_rfl|(intro _;kernel_rfl)|decide|constructor)
def R5(w:World)(g:Nat):Prop:=∃ev,w.cell? ⟨g,0,none⟩=some ev/\(ev= .nilIface\/∃te pe,ev= .iface te pe)
structure Nr(w:World):Prop where
 tab:Lib.TabIs Tryz.prog w "internal/strconv.uint64pow10" .u64 Lib.pow10Tab
 es:R5 w (Tryz.atoi_ren.g 15)
 er:R5 w (Tryz.atoi_ren.g 16)
def dR(G:Nat)(w:World):Prop:=∀w':World,(∀k,k<G->w'.heap[k]?=w.heap[k]?)->Nr w'
theorem dR.at{G:Nat}{w:World}(h:dR G w):Nr w:=h w λ_ _=>rfl
theorem dR.on{G:Nat}{w w':World}(h:dR G w)(hk:∀k,k<G->w'.heap[k]?=w.heap[k]?):dR G w':=λw2 h2=>h w2 λk hlt=>(h2 k hlt).trans (hk k hlt)
theorem dR.below{G B:Nat}{w w':World}(h:dR G w)(hb:Below B w w')(hG:G<=B):dR G w':=h.on λk hk=>hb.block k (by omega)
theorem aaQ(s:List UInt8)(hs:s.length<=281474976710656)(h:∀v,Lib.atoiAll s≠ .ok v)(w:World)(hE:Nr w):
 Calls Tryz.prog 143 #[.string ⟨s.toArray⟩] w λe w'=> ∃n t a,e= .returned (.tuple #[.int .i64 n,.iface t (.pointer (some a))])/\Below w.heap.size w w':=by
 have hz:(⟨s.toArray⟩:ByteArray).size<=281474976710656:=by simpa [ByteArray.size] using hs
 cases hc:Lib.atoiAll s
 ·exact absurd hc (h _)
 ·obtain⟨ev,h1,h2⟩:=hE.es
  refine(Any.strconv_Atoi_syntax Tryz.atoi ⟨s.toArray⟩ hz (by simpa using hc) ev w h1 h2).mono ?_;rintro e w' ⟨N,h3,_,_,h4⟩;exact⟨_,_,_,h3,h4⟩
 ·obtain⟨ev,h1,h2⟩:=hE.er
  refine(Any.strconv_Atoi_range Tryz.atoi ⟨s.toArray⟩ hz (by simpa using hc) ev w h1 h2).mono ?_;rintro e w' ⟨N,h3,_,_,h4⟩;exact⟨_,_,_,h3,h4⟩
theorem aaR(bk c:Nat)(xs:List (List UInt8))(w:World)(hc:∀(j:Nat) x,xs[j]?=some x->w.cell? ⟨bk,j,none⟩=some (.string ⟨x.toArray⟩))(hbk:bk<w.heap.size)(hN:xs.length<=1000000)(hcap:xs.length<=c)(hlen:(Lib.join xs [32]).length<=1000000000):
 Calls Tryz.prog 110 #[.slice (some ⟨bk,0,none⟩) xs.length c,.string ⟨#[32]⟩] w λe w'=>e= .returned (.string ⟨(Lib.join xs [32]).toArray⟩)/\Below w.heap.size w w':=by
 have hm:(xs.map λx=>(⟨x.toArray⟩:ByteArray)).map (·.data.toList)=xs:=by simp[Function.comp_def]
 have:=Any.strings_Join Tryz.join Tryz.joinx bk 0 c (xs.map λx=>⟨x.toArray⟩) ⟨#[32]⟩ w (λj x hx=>by
  rw[List.getElem?_map,yK]at hx;obtain⟨y,hy,rfl⟩:=hx;rw[eO]
  exact hc j y hy) hbk (by simp;omega) (by simpa using hcap) (by rw[hm];show (Lib.join xs [32]).length<=_;omega)
 rw[hm,cK]at this;exact this
def Tryz.cutP_ren:Go.Shelf.Ren:=⟨λ|103=>29|206=>109|210=>64|n=>n,λ|3=>3|4=>4|9=>9|24=>88|n=>n,λ|n=>n⟩
theorem Tryz.cutP:Go.Proofs.Lays.n103 Tryz.prog Tryz.cutP_ren:=by repeat' (first|kernel_rfl|(intro _;kernel_rfl)|decide|constructor)
theorem R6(s p:ByteArray)(w:World):Calls Tryz.prog 29 #[.string s,.string p] w λe w'=>e= .returned (.tuple #[.string ⟨(Lib.trimPrefix s.data.toList p.data.toList).toArray⟩,.bool (Lib.hasPrefix s.data.toList p.data.toList)])/\w'=w:=Any.strings_CutPrefix Tryz.cutP s p w
noncomputable def Tryz.idx_ren:Go.Shelf.Ren:=⟨λ|217=>105|219=>63|224=>107|225=>106|266=>140|267=>108|314=>141|n=>n,λ|3=>3|4=>4|5=>5|9=>9|46=>197|51=>166|146=>224|n=>n,λ|1=>(Tryz.prog.globals.findIdx? (λx=>x.name== "internal/bytealg.MaxLen")).getD 0|n=>n⟩
theorem Tryz.idx:Go.Proofs.Lays.n219 Tryz.prog Tryz.idx_ren:=by repeat' (first|kernel_rfl|(intro _;kernel_rfl)|decide|constructor)
theorem R7(s:ByteArray)(c:UInt8)(w:World):Calls Tryz.prog 63 #[.string s,.string ⟨#[c]⟩] w λe w'=>e= .returned (.int .i64 (Lib.indexByte s.data.toList c))/\w'=w:=Any.stringslite_Index_one Tryz.idx s c w
end Go.Proofs.YthbifaoaiggooaaGreatDoor
namespace Go.Proofs.YthbifaoaiggooaaGreatDoor
open Go.RowKit
def dP(c:UInt8):Bool:=decide (48<=c.toNat)&&decide (c.toNat<=57)
def BO(r:List UInt8):Nat->Nat->Nat->Nat×Nat
 |0,n,k=>(n,k)
 |f+1,n,k=>if (decide (k<r.length)&&dP (r.getD k 0)&&(k==0||decide (0<n)))=true then BO r f (n*10+((r.getD k 0).toNat-48)) (k+1) else (n,k)
def iA(r:List UInt8):Nat×Nat:=BO r 4 0 0
theorem ay{w:World}{b i:Nat}{cs:Array Value}{ty:TypeId}{f:Nat×Nat}{u:Value}(h:w.heap[b]?=some (.cells cs ty f))(hu:cs[i]?=some u):w.cell? ⟨b,i,none⟩=some u:=by
 unfold World.cell?;simp[h,hu]
theorem bO{w:World}{b i:Nat}{cs:Array Value}{ty:TypeId}(h:w.heap[b]?=some (.cells cs ty (0,0))):w.frozen? ⟨b,i,none⟩=false:=by
 unfold World.frozen?;simp[h]
def cZ(w:World)(b:Nat)(r:List UInt8)(g:Bool):Prop:=w.heap[b]?=some (.cells #[.string ⟨r.toArray⟩,.bool g] 202 (0,0))
structure But(b:Nat)(w w':World):Prop where
 os:w'.os=w.os
 tape:w'.tape=w.tape
 output:w'.output=w.output
 size:w.heap.size<=w'.heap.size
 block:∀k,k<w.heap.size->k≠b->w'.heap[k]?=w.heap[k]?
section
variable{b:Nat}{w w' a:World}{r:List UInt8}{g:Bool}
theorem But.refl(b:Nat)(w:World):But b w w:=⟨rfl,rfl,rfl,ah _,λ_ _ _=>rfl⟩
theorem But.trans(h:But b a w)(k:But b w w'):But b a w':=⟨k.os.trans h.os,k.tape.trans h.tape,k.output.trans h.output,aZ h.size k.size,λi hi hb=>(k.block i (jg hi h.size) hb).trans (h.block i hi hb)⟩
theorem But.of(b:Nat)(h:Below w.heap.size w w'):But b w w':=⟨h.os,h.tape,h.output,h.size,λi hi _=>h.block i hi⟩
theorem But.below(h:But b w w'){B:Nat}(hb:B<=b)(hB:B<=w.heap.size):Below B w w':=⟨h.os,h.tape,h.output,h.size,λi hi=>h.block i (by omega) (by omega)⟩
theorem But.set(b i:Nat)(u:Value):But b w (w.setCell ⟨b,i,none⟩ u):=by
 have h:Below 0 w (w.setCell ⟨b,i,none⟩ u):=(ai _ _).setCell (aP _) u;exact⟨h.os,h.tape,h.output,h.size,λk _ hk=>gm w _ u k hk⟩
theorem cZ.set0(h:cZ w b r g)(r':List UInt8):cZ (w.setCell ⟨b,0,none⟩ (.string ⟨r'.toArray⟩)) b r' g:=Lib.heap_setCell_same h _
theorem cZ.set1(h:cZ w b r g)(g':Bool):cZ (w.setCell ⟨b,1,none⟩ (.bool g')) b r g':=Lib.heap_setCell_same h _
theorem cZ.lt(h:cZ w b r g):b<w.heap.size:=(dx.1 h).1
end
section
variable{w:World}{b:Nat}{r p:List UInt8}{g:Bool}
theorem aaS(c:UInt8)(w:World):Calls Tryz.prog 145 #[.int .u8 (c.toNat:Int)] w λe w'=>e= .returned (.bool (dP c))/\w'=w:=by
 by_cases h1:48<=c.toNat
 ·have d1:decide ((48:Int)<=(c.toNat:Int))=true:=aT (by omega)
  have d2:decide ((c.toNat:Int)>=48)=true:=aT (by omega);have d5:decide (48<=c.toNat)=true:=aT h1;by_cases h2:c.toNat<=57
  ·have d3:decide ((c.toNat:Int)<=57)=true:=aT (by omega)
   have d4:decide (c.toNat<=57)=true:=aT h2;have HD:Hid (dP c=true):=by show _=_;simp[dP,h1,h2]
   go_enter Tryz.func145,Tryz.ntmps145
   go_wp2_with fail
   go_ret;exact⟨by rw[HD.out];rfl,rfl⟩
  ·have d3:decide ((c.toNat:Int)<=57)=false:=aU (by omega)
   have d4:decide (c.toNat<=57)=false:=aU h2;have HD:Hid (dP c=false):=by show _=_;simp[dP,h1,h2]
   go_enter Tryz.func145,Tryz.ntmps145
   go_wp2_with fail
   go_ret;exact⟨by rw[HD.out];rfl,rfl⟩
 ·have d1:decide ((48:Int)<=(c.toNat:Int))=false:=aU (by omega)
  have d2:decide ((c.toNat:Int)>=48)=false:=aU (by omega);have d5:decide (48<=c.toNat)=false:=aU h1;have HD:Hid (dP c=false):=by show _=_;simp[dP,h1]
  go_enter Tryz.func145,Tryz.ntmps145
  go_wp2_with fail
  go_ret;exact⟨by rw[HD.out];rfl,rfl⟩
theorem aaT(h:cZ w b r g):Calls Tryz.prog 115 #[.pointer (some ⟨b,0,none⟩)] w λe w'=>e= .returned (.bool (!g&& !r.isEmpty))/\w'=w:=by
 have c0:w.cell? ⟨b,0,none⟩=some (.string ⟨r.toArray⟩):=ay h rfl;have c1:w.cell? ⟨b,1,none⟩=some (.bool g):=ay h rfl;clear h;cases g with
 |true=>
  go_enter Tryz.func115,Tryz.ntmps115
  go_wp2_with fail
  go_ret;exact⟨rfl,rfl⟩
 |false=>
  cases r with
  |nil=>
   go_enter Tryz.func115,Tryz.ntmps115
   go_wp2_with fail
   go_ret;exact⟨rfl,rfl⟩
  |cons x l=>
   go_enter Tryz.func115,Tryz.ntmps115
   go_wp2_with fail
   go_ret;exact⟨rfl,rfl⟩
theorem aaU(h:cZ w b r g):Calls Tryz.prog 114 #[.pointer (some ⟨b,0,none⟩)] w λe w'=>e= .returned (.bool (!g&&r.isEmpty))/\w'=w:=by
 have c0:w.cell? ⟨b,0,none⟩=some (.string ⟨r.toArray⟩):=ay h rfl;have c1:w.cell? ⟨b,1,none⟩=some (.bool g):=ay h rfl;clear h;cases g with
 |true=>
  go_enter Tryz.func114,Tryz.ntmps114
  go_wp2_with fail
  go_ret;exact⟨rfl,rfl⟩
 |false=>
  cases r with
  |nil=>
   go_enter Tryz.func114,Tryz.ntmps114
   go_wp2_with fail
   go_ret;exact⟨rfl,rfl⟩
  |cons x l=>
   go_enter Tryz.func114,Tryz.ntmps114
   go_wp2_with fail
   go_ret;exact⟨rfl,rfl⟩
theorem R8(h:cZ w b r g)(p:List UInt8):Calls Tryz.prog 144 #[.pointer (some ⟨b,0,none⟩),.string ⟨p.toArray⟩] w λe w'=>e= .returned (.bool (Lib.hasPrefix r p))/\cZ w' b (Lib.trimPrefix r p) g/\But b w w':=by
 have c0:w.cell? ⟨b,0,none⟩=some (.string ⟨r.toArray⟩):=ay h rfl;have f0:w.frozen? ⟨b,0,none⟩=false:=bO h;have cp:=R6 ⟨r.toArray⟩ ⟨p.toArray⟩ w;have HS:Hid (cZ w b r g):=h;obtain⟨t,ht⟩:=af (Lib.trimPrefix r p);obtain⟨k,hk⟩:=af (Lib.hasPrefix r p);simp only[ht,hk]at cp⊢;clear h ht hk
 go_enter Tryz.func144,Tryz.ntmps144
 go_wp2_with
  (go_at_call 29;refine cp.mono ?_;rintro e w2 ⟨rfl,h2⟩;obtain rfl:w=w2:=h2.symm;clear cp)
 go_ret;exact⟨rfl,HS.out.set0 _,But.set _ _ _⟩
theorem aaV(h:cZ w b r g)(p:List UInt8):Calls Tryz.prog 112 #[.pointer (some ⟨b,0,none⟩),.string ⟨p.toArray⟩] w λe w'=>e= .returned (.tuple #[])/\cZ w' b (Lib.trimPrefix r p) (g|| !Lib.hasPrefix r p)/\But b w w':=by
 have tk:=R8 h p;clear h;cases hk:Lib.hasPrefix r p with
 |true=>
  rw[hk]at tk
  go_enter Tryz.func112,Tryz.ntmps112
  go_wp2_with
   (go_at_call 144;refine tk.mono ?_;rintro e w2 ⟨rfl,h2,h3⟩
    have H2:Hid (cZ w2 b (Lib.trimPrefix r p) g/\But b w w2):=⟨h2,h3⟩
    clear tk h2 h3)
  go_end0
  refine⟨rfl,?_,H2.out.2⟩;simpa using H2.out.1
 |false=>
  rw[hk]at tk
  go_enter Tryz.func112,Tryz.ntmps112
  go_wp2_with
   (go_at_call 144;refine tk.mono ?_;rintro e w2 ⟨rfl,h2,h3⟩
    have H2:Hid (cZ w2 b (Lib.trimPrefix r p) g/\But b w w2):=⟨h2,h3⟩;have f1:w2.frozen? ⟨b,1,none⟩=false:=bO h2;have c1:w2.cell? ⟨b,1,none⟩=some (.bool g):=ay h2 rfl
    clear tk h2 h3)
  go_end0
  refine⟨rfl,?_,H2.out.2.trans (But.set _ _ _)⟩;have:=H2.out.1.set1 true;simpa using this
end
section
variable{w:World}{b:Nat}{r p:List UInt8}{g:Bool}
theorem Ns(r:List UInt8)(k:Nat):(⟨r.toArray⟩:ByteArray).extract k r.length=⟨(r.drop k).toArray⟩:=by
 apply ByteArray.ext;simp[ByteArray.data_extract];exact pG (by simp)
theorem R9{n k:Nat}(h:cZ w b r g)(hN:iA r=(n,k))(hk:k=0):cZ ((w.setCell ⟨b,1,none⟩ (.bool true)).setCell ⟨b,0,none⟩ (.string ((⟨r.toArray⟩:ByteArray).extract k r.length))) b (r.drop (iA r).2) (g||(iA r).2==0)/\But b w ((w.setCell ⟨b,1,none⟩ (.bool true)).setCell ⟨b,0,none⟩ (.string ((⟨r.toArray⟩:ByteArray).extract k r.length))):=by
 rw[Ns,hN];have e:(g||k==0)=true:=by rw[hk];simp
 refine⟨?_,(But.set _ _ _).trans (But.set _ _ _)⟩;show cZ _ b (r.drop k) (g||k==0);rw[e];exact(h.set1 true).set0 _
theorem Nt{n k:Nat}(h:cZ w b r g)(hN:iA r=(n,k))(hk:¬k=0):cZ (w.setCell ⟨b,0,none⟩ (.string ((⟨r.toArray⟩:ByteArray).extract k r.length))) b (r.drop (iA r).2) (g||(iA r).2==0)/\But b w (w.setCell ⟨b,0,none⟩ (.string ((⟨r.toArray⟩:ByteArray).extract k r.length))):=by
 rw[Ns,hN];have e:(g||k==0)=g:=by simp[hk]
 refine⟨?_,But.set _ _ _⟩;show cZ _ b (r.drop k) (g||k==0);rw[e];exact h.set0 _
theorem aaW(h:cZ w b r g):Calls Tryz.prog 113 #[.pointer (some ⟨b,0,none⟩)] w λe w'=>e= .returned (.int .i64 ((iA r).1:Nat))/\cZ w' b (r.drop (iA r).2) (g||(iA r).2==0)/\But b w w':=by
 have c0:w.cell? ⟨b,0,none⟩=some (.string ⟨r.toArray⟩):=ay h rfl;have c1:w.cell? ⟨b,1,none⟩=some (.bool g):=ay h rfl;have f0:w.frozen? ⟨b,0,none⟩=false:=bO h;have f1:w.frozen? ⟨b,1,none⟩=false:=bO h;have HS:Hid (cZ w b r g):=h;clear h
 go_enter Tryz.func113,Tryz.ntmps113
 go_wp2_with fail
 go_loopw [3,4] (λs3 s4 wr=> ∃n k:Nat,s3= .int .i64 n/\s4= .int .i64 k/\k<=4/\k<=r.length/\n<10^k/\BO r (4-k) n k=iA r/\wr=w) (λ_ s _=>4-(intOf s).toNat)
 case atStart=>exact⟨0,0,rfl,rfl,by omega,by omega,by omega,rfl,rfl⟩
 case round=>
  obtain⟨n,k,rfl,rfl,hk4,hkl,hn,lV,rfl⟩:=hrel;have hP:n<10000:=jg hn (wV (by omega) hk4:10^k<=10^4);by_cases h1:k<r.length/\k<4
  ·obtain⟨f,hf⟩:∃f,4-k=f+1:=⟨3-k,by omega⟩
   have hf':4-(k+1)=f:=by omega
   rw[hf,BO]at lV;have i1:decide ((k:Int)<min (r.length:Int) 4)=true:=aT (by omega);have i2:(k:Int)<min (r.length:Int) 4:=by omega
   have i3:(k:Int)<(r.length:Int):=by omega
   have i4:k<r.length:=h1.1;have i5:(0:Int)<=(k:Int):=by omega
   obtain⟨c,hc⟩:=af (r.getD k 0)
   have hb:(⟨r.toArray⟩:ByteArray)[k]'(by simpa [ByteArray.size] using i4)=c:=by
    rw[<-hc];simp[ByteArray.getElem_eq_getElem_data,List.getD,i4]
   rw[hc,aT i4]at lV;have dg:=aaS c wr;cases hd:dP c with
   |false=>
    rw[hd]at dg;rw[hd]at lV;simp only[wN,Bool.false_and,dO,bN]at lV;have HN:Hid (iA r=(n,k)):=lV.symm;clear lV hn hd hc
    go_wp2_with
     (go_at_call 145;refine dg.mono ?_;rintro e w2 ⟨rfl,h2⟩;obtain rfl:wr=w2:=h2.symm;clear dg)
    ·rename_i hz
     go_ret;exact⟨by rw[HN.out];rfl,R9 HS.out HN.out (by simpa using hz)⟩
    ·rename_i hz
     go_ret;exact⟨by rw[HN.out];rfl,Nt HS.out HN.out (by simpa using hz)⟩
   |true=>
    rw[hd]at dg lV;have hD:=hd;simp only[dP,bG,bX]at hD;by_cases hg:k=0\/0<n
    ·have hgb:(k==0||decide (0<n))=true:=by simpa using hg
     rw[hgb]at lV;simp only[wN,bQ]at lV
     have HN:Hid (BO r (4-(k+1)) (n*10+(c.toNat-48)) (k+1)=iA r):=by
      show _=_;rw[hf'];exact lV
     have HL:Hid (n*10+(c.toNat-48)<10^(k+1)):=by
      show _<_;rw[Nat.pow_succ];omega
     have n1:((n:Int)*10+((c.toNat:Int)-48))=((n*10+(c.toNat-48):Nat):Int):=by omega
     clear lV hn hd hc hgb;by_cases hk0:k=0
     ·have b1:((k:Int)==0)=true:=by simp[hk0]
      clear hk0 hg
      go_wp2_with
       (go_at_call 145;refine dg.mono ?_;rintro e w2 ⟨rfl,h2⟩;obtain rfl:wr=w2:=h2.symm;clear dg)
      go_roundw
      case rel=>exact⟨n*10+(c.toNat-48),k+1,by go_num,by go_num,by omega,by omega,HL.out,HN.out,by first|rfl|trivial⟩
      case measure=>simp[intOf];omega
     ·have b1:((k:Int)==0)=false:=by simp[hk0]
      have b2:decide ((0:Int)<(n:Int))=true:=aT (by omega);have b3:decide ((n:Int)>0)=true:=b2;have b4:decide (0<n)=true:=aT (by omega)
      go_wp2_with
       (go_at_call 145;refine dg.mono ?_;rintro e w2 ⟨rfl,h2⟩;obtain rfl:wr=w2:=h2.symm;clear dg)
      go_roundw
      case rel=>exact⟨n*10+(c.toNat-48),k+1,by go_num,by go_num,by omega,by omega,HL.out,HN.out,by first|rfl|trivial⟩
      case measure=>simp[intOf];omega
    ·have hgb:(k==0||decide (0<n))=false:=by simp;omega
     rw[hgb]at lV;simp only[Bool.and_false,dO,bN]at lV;have HN:Hid (iA r=(n,k)):=lV.symm;have b1:((k:Int)==0)=false:=by simp;omega
     have b2:decide ((0:Int)<(n:Int))=false:=aU (by omega);have b3:decide ((n:Int)>0)=false:=b2;have b4:decide (0<n)=false:=aU (by omega);clear lV hn hd hc hgb
     go_wp2_with
      (go_at_call 145;refine dg.mono ?_;rintro e w2 ⟨rfl,h2⟩;obtain rfl:wr=w2:=h2.symm;clear dg)
     go_ret;exact⟨by rw[HN.out];rfl,Nt HS.out HN.out (by omega)⟩
  ·have i1:decide ((k:Int)<min (r.length:Int) 4)=false:=aU (by omega)
   have i2:¬(k:Int)<min (r.length:Int) 4:=by omega
   have HN:Hid (iA r=(n,k)):=by
    show _=_;rw[<-lV];by_cases h4:k=4
    ·rw[h4,wW,BO]
    ·obtain⟨f,hf⟩:∃f,4-k=f+1:=⟨3-k,by omega⟩
     have hl:decide (k<r.length)=false:=aU (by omega);rw[hf,BO,hl];simp
   clear lV hn
   go_wp2_with fail
   ·rename_i hz
    go_ret;exact⟨by rw[HN.out];rfl,R9 HS.out HN.out (by simpa using hz)⟩
   ·rename_i hz
    go_ret;exact⟨by rw[HN.out];rfl,Nt HS.out HN.out (by simpa using hz)⟩
end
abbrev fU:=List UInt8×Bool
def gW(p:List UInt8)(s:fU):fU:=(Lib.trimPrefix s.1 p,s.2|| !Lib.hasPrefix s.1 p)
def jk(s:fU):fU:=(s.1.drop (iA s.1).2,s.2||(iA s.1).2==0)
def Ag(s:fU):Bool:=Lib.hasPrefix (gW [32] s).1 [116]
def mJ(s:fU):fU:=(Lib.trimPrefix (gW [32] s).1 [116],(gW [32] s).2)
def qy(s:fU):fU:=if Ag s then mJ s else gW [110] (mJ s)
def lW(s:fU):fU:=jk (qy s)
section
variable{w w' a:World}{b:Nat}{s:fU}{r:List UInt8}{g:Bool}
theorem DC(h:cZ w b s.1 s.2)(p:List UInt8):Calls Tryz.prog 112 #[.pointer (some ⟨b,0,none⟩),.string ⟨p.toArray⟩] w λe w'=>e= .returned (.tuple #[])/\cZ w' b (gW p s).1 (gW p s).2/\But b w w':=aaV h p
theorem FR(h:cZ w b s.1 s.2):Calls Tryz.prog 113 #[.pointer (some ⟨b,0,none⟩)] w λe w'=>e= .returned (.int .i64 ((iA s.1).1:Nat))/\cZ w' b (jk s).1 (jk s).2/\But b w w':=aaW h
theorem Sb(h:cZ w b (gW [32] s).1 (gW [32] s).2):Calls Tryz.prog 144 #[.pointer (some ⟨b,0,none⟩),.string ⟨[116].toArray⟩] w λe w'=>e= .returned (.bool (Ag s))/\cZ w' b (mJ s).1 (mJ s).2/\But b w w':=R8 h [116]
theorem cZ.alloc(h:cZ w b r g)(o:Obj):cZ (w.alloc o) b r g:=(sJ w o b h.lt).trans h
theorem But.alloc(b:Nat)(o:Obj):But b w (w.alloc o):=But.of b ((ai _ _).alloc (ah _) o)
theorem But.JS(h:But b a w){p:Nat}(hp:a.heap.size<=p)(i:Nat)(u:Value):But b a (w.setCell ⟨p,i,none⟩ u):=by
 have k:Below 0 w (w.setCell ⟨p,i,none⟩ u):=(ai _ _).setCell (aP _) u;exact⟨k.os.trans h.os,k.tape.trans h.tape,k.output.trans h.output,aZ h.size k.size,λj hj hb=>(gm w _ u j (by show j≠p;omega)).trans (h.block j hj hb)⟩
theorem cZ.DF(h:cZ w b r g){p:Nat}(hp:p≠b)(i:Nat)(u:Value):cZ (w.setCell ⟨p,i,none⟩ u) b r g:=(gm w _ u b (by show b≠p;omega)).trans h
theorem aaX(h:cZ w b s.1 s.2):Calls Tryz.prog 116 #[.pointer (some ⟨b,0,none⟩)] w λe w'=>e= .returned (.agg #[.bool (Ag s),.int .i64 ((iA (qy s).1).1:Nat)])/\cZ w' b (lW s).1 (lW s).2/\But b w w':=by
 obtain⟨W1,hW1⟩:=af (w.alloc (.cells #[.bool false,.int .i64 0] 121));obtain⟨p,hp⟩:=af w.heap.size;have hx:=heap_alloc_new w (.cells #[.bool false,.int .i64 0] 121);rw[hW1,hp]at hx;have hB1:But b w W1:=by rw[<-hW1];exact But.alloc _ _
 have h1:cZ W1 b s.1 s.2:=by rw[<-hW1];exact h.alloc _
 have hlt:=h.lt;rw[hp]at hlt
 have HG:Hid (∀wq,But b W1 wq->wq.heap[p]?=some (.cells #[.bool false,.int .i64 0] 121 (0,0))/\But b w wq):=λwq hq=>
  ⟨(hq.block p (dx.1 hx).1 (by omega)).trans hx,hB1.trans hq⟩
 have HP:Hid (w.heap.size=p/\b<p):=⟨hp,hlt⟩;have wd:=DC h1 [32];clear h hx hB1 h1 hlt;cases hT:Ag s with
 |true=>
  have hB:qy s=mJ s:=by unfold qy;rw[hT];rfl
  have HS:Hid (lW s=jk (mJ s)/\qy s=mJ s):=⟨by unfold lW;rw[hB],hB⟩;have HT:Hid (Ag s=true):=hT;clear hT hB
  go_enter Tryz.func116,Tryz.ntmps116
  go_wp2_with
   (first
    |(go_at_call 112;refine wd.mono ?_;rintro e w2 ⟨rfl,h2,h3⟩
      have tk:=Sb h2;rw[HT.out]at tk;have H2:Hid (But b W1 w2):=h3
      clear wd h2 h3)
    |(go_at_call 144;refine tk.mono ?_;rintro e w3 ⟨rfl,h2,h3⟩
      have nu:=FR h2;have H3:Hid (But b W1 w3):=H2.out.trans h3
      clear tk h2 h3)
    |(go_at_call 113;refine nu.mono ?_;rintro e w4 ⟨rfl,h2,h3⟩
      have H4:Hid (But b W1 w4/\cZ w4 b (jk (mJ s)).1 (jk (mJ s)).2):=⟨H3.out.trans h3,h2⟩;have hq:=(HG.out w4 H4.out.1).1;have c0:w4.cell? ⟨p,0,none⟩=some (.bool false):=ay hq rfl;have c1:w4.cell? ⟨p,1,none⟩=some (.int .i64 0):=ay hq rfl;have f0:w4.frozen? ⟨p,0,none⟩=false:=bO hq;have f1:w4.frozen? ⟨p,1,none⟩=false:=bO hq
      clear nu h2 h3 hq))
  have hq:=Lib.heap_setCell_same (i:=1) (Lib.heap_setCell_same (i:=0) (HG.out w4 H4.out.1).1 (.bool true)) (.int .i64 ((iA (mJ s).1).1:Nat));have x0:=ay (i:=0) hq rfl;have x1:=ay (i:=1) hq rfl;refine aH (v:= .agg #[.bool true,.int .i64 ((iA (mJ s).1).1:Nat)]) (by simp[results,Tryz.results116,go_sem,x0,x1]) rfl ⟨by rw[HS.out.2],?_,?_⟩
  ·rw[HS.out.1]
   exact(H4.out.2.DF (by have:=HP.out.2;omega) _ _).DF (by have:=HP.out.2;omega) _ _
  ·exact((HG.out w4 H4.out.1).2.JS (by have:=HP.out.1;omega) _ _).JS (by have:=HP.out.1;omega) _ _
 |false=>
  have hB:qy s=gW [110] (mJ s):=by unfold qy;rw[hT];rfl
  have HS:Hid (lW s=jk (gW [110] (mJ s))/\qy s=gW [110] (mJ s)):=⟨by unfold lW;rw[hB],hB⟩;have HT:Hid (Ag s=false):=hT;clear hT hB
  go_enter Tryz.func116,Tryz.ntmps116
  go_wp2_with
   (first
    |(go_at_call 112;refine wd.mono ?_;rintro e w2 ⟨rfl,h2,h3⟩
      have tk:=Sb h2;rw[HT.out]at tk;have H2:Hid (But b W1 w2):=h3
      clear wd h2 h3)
    |(go_at_call 144;refine tk.mono ?_;rintro e w3 ⟨rfl,h2,h3⟩
      have wo:=DC h2 [110];have H3:Hid (But b W1 w3):=H2.out.trans h3
      clear tk h2 h3)
    |(go_at_call 112;refine wo.mono ?_;rintro e w5 ⟨rfl,h2,h3⟩
      have nu:=FR h2;have H5:Hid (But b W1 w5):=H3.out.trans h3
      clear wo h2 h3)
    |(go_at_call 113;refine nu.mono ?_;rintro e w4 ⟨rfl,h2,h3⟩
      have H4:Hid (But b W1 w4/\cZ w4 b (jk (gW [110] (mJ s))).1 (jk (gW [110] (mJ s))).2):=⟨H5.out.trans h3,h2⟩;have hq:=(HG.out w4 H4.out.1).1;have c0:w4.cell? ⟨p,0,none⟩=some (.bool false):=ay hq rfl;have c1:w4.cell? ⟨p,1,none⟩=some (.int .i64 0):=ay hq rfl;have f0:w4.frozen? ⟨p,0,none⟩=false:=bO hq;have f1:w4.frozen? ⟨p,1,none⟩=false:=bO hq
      clear nu h2 h3 hq))
  have hq:=Lib.heap_setCell_same (i:=1) (Lib.heap_setCell_same (i:=0) (HG.out w4 H4.out.1).1 (.bool false)) (.int .i64 ((iA (gW [110] (mJ s)).1).1:Nat));have x0:=ay (i:=0) hq rfl;have x1:=ay (i:=1) hq rfl;refine aH (v:= .agg #[.bool false,.int .i64 ((iA (gW [110] (mJ s)).1).1:Nat)]) (by simp[results,Tryz.results116,go_sem,x0,x1]) rfl ⟨by rw[HS.out.2],?_,?_⟩
  ·rw[HS.out.1]
   exact(H4.out.2.DF (by have:=HP.out.2;omega) _ _).DF (by have:=HP.out.2;omega) _ _
  ·exact((HG.out w4 H4.out.1).2.JS (by have:=HP.out.1;omega) _ _).JS (by have:=HP.out.1;omega) _ _
end
def BP(l:List UInt8):fU:=gW [116,101,114,109,115,32] (l,false)
def BQ(l:List UInt8):fU:=gW [32,110,97,109,101,115,32] (jk (BP l))
def oz(l:List UInt8):Nat:=(iA (BP l).1).1
def hdN(l:List UInt8):Nat:=(iA (BQ l).1).1
def JU(l:List UInt8):Bool:= !(jk (BQ l)).2&&(jk (BQ l)).1.isEmpty
section
variable{w w' a:World}{b:Nat}{s:fU}{r:List UInt8}{g:Bool}
theorem Sc(h:cZ w b s.1 s.2):Calls Tryz.prog 114 #[.pointer (some ⟨b,0,none⟩)] w λe w'=>e= .returned (.bool (!s.2&&s.1.isEmpty))/\w'=w:=aaU h
theorem Sd(w:World)(l:List UInt8):cZ (w.alloc (.cells #[.string ⟨l.toArray⟩,.bool false] 202)) w.heap.size (l,false).1 (l,false).2:=heap_alloc_new w _
theorem But.other{p:Nat}{u v:World}(h:But b w u)(k:But p u v)(hp:w.heap.size<=p):But b w v:=
 ⟨k.os.trans h.os,k.tape.trans h.tape,k.output.trans h.output,aZ h.size k.size,λi hi hb=>(k.block i (jg hi h.size) (by omega)).trans (h.block i hi hb)⟩
theorem aaY{gb:Nat}{t n:Int}{x2:Value}(l:List UInt8)(hg:w.heap[gb]?=some (.cells #[.int .i64 t,.int .i64 n,x2] 27 (0,0))):Calls Tryz.prog 78 #[.pointer (some ⟨gb,0,none⟩),.string ⟨l.toArray⟩] w λe w'=>e= .returned (.bool (JU l))/\w'.heap[gb]?=some (.cells #[.int .i64 (oz l),.int .i64 (hdN l),x2] 27 (0,0))/\But gb w w':=by
 obtain⟨W1,hW1⟩:=af (w.alloc (.cells #[.string ⟨l.toArray⟩,.bool false] 202));obtain⟨p,hp⟩:=af w.heap.size;have h1:=Sd w l;rw[hW1,hp]at h1;have hlt:gb<w.heap.size:=(dx.1 hg).1;have hg1:W1.heap[gb]?=some (.cells #[.int .i64 t,.int .i64 n,x2] 27 (0,0)):=by rw[<-hW1];exact(sJ w _ gb hlt).trans hg
 have HB1:Hid (But gb w W1/\w.heap.size=p/\gb<p):=⟨by rw[<-hW1];exact But.alloc _ _,hp,by omega⟩;have FT:Hid (W1.heap[gb]?=some (.cells #[.int .i64 t,.int .i64 n,x2] 27 (0,0))):=hg1;have wd:=DC h1 [116,101,114,109,115,32];have HA:Hid (BP l=gW [116,101,114,109,115,32] (l,false)):=rfl;rw[<-HA.out]at wd;have HW:Hid (w.alloc (.cells #[.string ⟨l.toArray⟩,.bool false] 202)=W1):=hW1;clear hg h1 hlt hg1 hW1 hp
 go_enter Tryz.func78,Tryz.ntmps78
 go_upto_region 2 with fail
 rw[HW.out];rw[HB1.out.2.1]
 go_wp2_with
  (first
   |(go_at_call 112;refine wd.mono ?_;rintro e w2 ⟨rfl,h2,h3⟩
     have nu:=FR h2;have H2:Hid (But p W1 w2):=h3
     clear wd h2 h3)
   |(go_at_call 113;refine nu.mono ?_;rintro e w3 ⟨rfl,h2,h3⟩
     have hq:=(H2.out.trans h3).block gb (dx.1 FT.out).1 (by have:=HB1.out.2.2;omega);rw[FT.out]at hq;have c0:w3.cell? ⟨gb,0,none⟩=some (.int .i64 t):=ay hq rfl;have f0:w3.frozen? ⟨gb,0,none⟩=false:=bO hq;obtain⟨w4,hw4⟩:=af (w3.setCell ⟨gb,0,none⟩ (.int .i64 ((iA (BP l).1).1:Nat)))
     have H4:Hid (But gb w w4/\w4.heap[gb]?=some (.cells #[.int .i64 (oz l),.int .i64 n,x2] 27 (0,0))):=by
      rw[<-hw4];exact⟨(HB1.out.1.other (H2.out.trans h3) (by have:=HB1.out.2.1;omega)).trans (But.set _ _ _),Lib.heap_setCell_same hq _⟩
     have h4:cZ w4 p (jk (BP l)).1 (jk (BP l)).2:=by rw[<-hw4];exact h2.DF (by have:=HB1.out.2.2;omega) _ _
     have wo:=DC h4 [32,110,97,109,101,115,32];have dz:Hid (BQ l=gW [32,110,97,109,101,115,32] (jk (BP l))):=rfl;rw[<-dz.out]at wo
     clear nu h2 h3 hq h4)
   |(go_at_call 112;refine wo.mono ?_;rintro e w5 ⟨rfl,h2,h3⟩
     have nb:=FR h2;have H5:Hid (But p w4 w5):=h3
     clear wo h2 h3)
   |(go_at_call 113;refine nb.mono ?_;rintro e w6 ⟨rfl,h2,h3⟩
     have hq:=(H5.out.trans h3).block gb (dx.1 H4.out.2).1 (by have:=HB1.out.2.2;omega);rw[H4.out.2]at hq;have c1:w6.cell? ⟨gb,1,none⟩=some (.int .i64 n):=ay hq rfl;have f1:w6.frozen? ⟨gb,1,none⟩=false:=bO hq;obtain⟨w7,hw7⟩:=af (w6.setCell ⟨gb,1,none⟩ (.int .i64 ((iA (BQ l).1).1:Nat)))
     have H7:Hid (But gb w w7/\w7.heap[gb]?=some (.cells #[.int .i64 (oz l),.int .i64 (hdN l),x2] 27 (0,0))):=by
      rw[<-hw7];exact⟨(H4.out.1.other (H5.out.trans h3) (by have:=HB1.out.2.1;omega)).trans (But.set _ _ _),Lib.heap_setCell_same hq _⟩
     have h4:cZ w7 p (jk (BQ l)).1 (jk (BQ l)).2:=by rw[<-hw7];exact h2.DF (by have:=HB1.out.2.2;omega) _ _
     have dn:=Sc h4
     clear nb h2 h3 hq h4)
   |(go_at_call 114;refine dn.mono ?_;rintro e w8 ⟨rfl,h8⟩;obtain rfl:w7=w8:=h8.symm;clear dn))
 go_ret;exact⟨rfl,H7.out.2,H7.out.1⟩
end
def BR(s:Sy):List Value:=[.bool s.1,.int .i64 s.2]
def jQ(l:List Sy):List Value:=l.flatMap BR
theorem Sg{l:List Sy}{i j:Nat}(hi:i<l.length)(hj:j<2):(jQ l)[i*2+j]?=(BR (l.getD i (false,0)))[j]?:=by
 unfold jQ
 induction l generalizing i with
 |nil=>simp at hi
 |cons a L ih=>
  rw[gV];cases i with
  |zero=>rw[vo (by simp[BR];omega)];simp
  |succ i=>
   rw[o9 (by simp[BR];omega)];simp only[BR,List.length_cons,List.length_nil];rw[show (i+1)*2+j-(0+1+1)=i*2+j by omega];have:=ih (i:=i) (by simpa using hi);simpa [List.getD,BR] using this
theorem aaZ(l:List Sy)(s:Sy):jQ (l++[s])=jQ l++[.bool s.1,.int .i64 s.2]:=by simp[jQ,BR]
theorem Tryz.infoSy9:(Tryz.prog.info? 121).map (λi=>(i.zero,i.size,i.bytes))=some (some (.agg #[.bool false,.int .i64 0]),2,16):=by kernel_rfl
theorem Tryz.infoRu9:(Tryz.prog.info? 96).map (λi=>(i.zero,i.size,i.bytes))=some (some (.agg #[.int .i64 0,.slice none 0 0]),2,32):=by kernel_rfl
theorem lu{w w':World}{base:Nat}{e:TypeId}{size n:Nat}{v:Value}{xs:List Value}(h:w.ownsRow base e size v n xs)(hb:∀g,v.ownBlock=some g->w'.heap[g]?=w.heap[g]?):w'.ownsRow base e size v n xs:=by
 refine⟨h.1,?_⟩;rcases h.2 with h2|⟨g,cap,cur,rfl,h2,h3,h4⟩
 ·exact .inl h2
 ·exact .inr ⟨g,cap,cur,rfl,h2,by rw[hb g rfl];exact h3,h4⟩
structure uF(w:World)(p:Nat)(L:Int)(rv:Value)(A:List Sy):Prop where
 at_:w.heap[p]?=some (.cells #[.int .i64 L,rv] 96 (0,0))
 own:w.ownsRow (p+1) 121 2 rv A.length (jQ A)
section
variable{w w':World}{p b:Nat}{L:Int}{rv:Value}{A:List Sy}
theorem uF.lt(h:uF w p L rv A):p<w.heap.size:=(dx.1 h.at_).1
theorem uF.but(h:uF w p L rv A)(hb:But b w w')(hp:b<p):uF w' p L rv A:=
 ⟨(hb.block p h.lt (by omega)).trans h.at_,lu h.own λg hg=>hb.block g (h.own.lt g hg).2 (by have:=(h.own.lt g hg).1;omega)⟩
theorem uF.later(h:uF w p L rv A)(hb:Below w.heap.size w w'):uF w' p L rv A:=
 ⟨(hb.block p h.lt).trans h.at_,lu h.own λg hg=>hb.block g (h.own.lt g hg).2⟩
theorem uF.put(h:uF w p L rv A){rv':Value}{A':List Sy}(hg:w.grownBy w' rv.ownBlock)(ho:w'.ownsRow (p+1) 121 2 rv' A'.length (jQ A')):uF (w'.setCell ⟨p,1,none⟩ rv') p L rv' A':=by
 have hb:w'.heap[p]?=w.heap[p]?:=hg.block p h.lt λe=>by have:=(h.own.lt p e.symm).1;omega
 exact⟨Lib.heap_setCell_same (hb.trans h.at_) _,lu ho λg hgg=>gm _ _ _ g (by have:=(ho.lt g hgg).1;show g≠p;omega)⟩
end
def Ah:Nat->fU->List Sy->fU×List Sy
 |0,s,A=>(s,A)
 |f+1,s,A=>if (!s.2&& !s.1.isEmpty)=true then Ah f (lW s) (if A.length<=8 then A++[(Ag s,((iA (qy s).1).1:Int))] else A) else (s,A)
def xh(l:List UInt8):fU:=gW [110] (l,false)
def FU(l:List UInt8):fU:=gW [58] (jk (xh l))
def fu(l:List UInt8):Nat:=(iA (xh l).1).1
def eD(l:List UInt8):fU×List Sy:=Ah ((FU l).1.length+1) (FU l) []
def BS(l:List UInt8):Bool:= !(eD l).1.2&&(eD l).1.1.isEmpty
def mz(s:fU):Nat:=if s.2 then 0 else s.1.length+1
def JV(b:Nat)(w:World):Nat:=match w.cell? ⟨b,0,none⟩,w.cell? ⟨b,1,none⟩ with
 |some (.string r),some (.bool g)=>if g then 0 else r.size+1
 |_,_=>0
theorem Nv{w:World}{b:Nat}{s:fU}(h:cZ w b s.1 s.2):JV b w=mz s:=by
 unfold JV mz;rw[ay (i:=0) h rfl,ay (i:=1) h rfl];simp[ByteArray.size]
theorem Si(s p:List UInt8):(Lib.trimPrefix s p).length<=s.length:=by
 unfold Lib.trimPrefix;split<;>simp
theorem aa0(p:List UInt8)(s:fU):(gW p s).1.length<=s.1.length:=Si _ _
theorem aa1(s:fU):(jk s).1.length<=s.1.length:=by simp[jk]
theorem aa2{s:fU}(h:s.2=true):(jk s).2=true:=by simp[jk,h]
theorem aa3{p:List UInt8}{s:fU}(h:s.2=true):(gW p s).2=true:=by simp[gW,h]
theorem Sj(s:fU):(mJ s).1.length<=(gW [32] s).1.length:=Si _ _
theorem aa4(s:fU):(qy s).1.length<=(gW [32] s).1.length:=by
 unfold qy;split
 ·exact Sj s
 ·exact aZ (aa0 _ _) (Sj s)
theorem aa5{s:fU}(h:(gW [32] s).2=true):(qy s).2=true:=by
 unfold qy;split
 ·exact h
 ·exact aa3 h
theorem Nw{s:fU}(h:(!s.2&& !s.1.isEmpty)=true):mz (lW s)<mz s:=by
 obtain⟨r,g⟩:=s;simp only[bG,FE]at h;obtain⟨hg,hr⟩:=h;subst hg;have e1:mz (r,false)=r.length+1:=rfl;rw[e1];cases hp:Lib.hasPrefix r [32] with
 |false=>
  have:(lW (r,false)).2=true:=aa2 (aa5 (by simp[gW,hp]));simp[mz,this]
 |true=>
  have h1:(gW [32] (r,false)).1.length=r.length-1:=by simp[gW,Lib.trimPrefix,hp]
  have h2:=aa4 (r,false);have h3:=aa1 (qy (r,false))
  have h4:0<r.length:=by cases r with
   |nil=>simp at hr
   |cons _ _=>simp
  have h5:mz (lW (r,false))<=(lW (r,false)).1.length+1:=by unfold mz;split<;>omega
  have h6:(lW (r,false)).1.length<=r.length-1:=by unfold lW;omega
  omega
theorem aa6{s:fU}{A:List Sy}(f:Nat)(h:(!s.2&& !s.1.isEmpty)=false):Ah f s A=(s,A):=by
 cases f with
 |zero=>rfl
 |succ f=>rw[Ah,h];simp
theorem aa7{s:fU}(h:(!s.2&& !s.1.isEmpty)=true):0<mz s:=Nat.lt_of_le_of_lt (aP _) (Nw h)
structure Row where
 v:Value
 e:TypeId
 size:Nat
 n:Nat
 xs:List Value
structure aA{ι:Type}(w:World)(base:Nat)(P:ι->Option Row):Prop where
 own:∀i r,P i=some r->w.ownsRow base r.e r.size r.v r.n r.xs
 apart:∀i j a b,i≠j->P i=some a->P j=some b->∀g,a.v.ownBlock=some g->b.v.ownBlock=some g->False
def upd{ι:Type}[DecidableEq ι](P:ι->Option Row)(i:ι)(r:Row):ι->Option Row:=λj=>if j=i then some r else P j
section
variable{ι:Type}{w:World}{base:Nat}{P:ι->Option Row}
theorem aA.drew(h:aA w base P):aA w.drew base P:=⟨h.own,h.apart⟩
theorem aA.alloc(h:aA w base P)(o:Obj):aA (w.alloc o) base P:=⟨λi r hr=>(h.own i r hr).alloc o,h.apart⟩
theorem aA.lt(h:aA w base P){i:ι}{r:Row}(hi:P i=some r){g:Nat}(hg:r.v.ownBlock=some g):base<=g/\g<w.heap.size:=(h.own i r hi).lt g hg
theorem aA.below(h:aA w base P){B:Nat}{w':World}(hb:Below B w w')(hB:w.heap.size<=B):aA w' base P:=
 ⟨λ_ _ hr=>own_below (h.own _ _ hr) hb λ_ hg=>jg (h.lt hr hg).2 hB,h.apart⟩
theorem aA.setOther(h:aA w base P){a:Addr}(ha:∀i r,P i=some r->r.v.ownBlock≠some a.block)(u:Value):aA (w.setCell a u) base P:=by
 refine⟨λi r hr=> ?_,h.apart⟩;obtain⟨h1,h2⟩:=h.own i r hr;refine⟨h1,?_⟩;rcases h2 with h2|⟨g,cap,cur,hv,hg,hh,rest⟩
 ·exact .inl h2
 ·refine .inr ⟨g,cap,cur,hv,hg,?_,rest⟩
  rw[gm _ _ _ _ (λe=>ha i r hr (by rw[hv,e];rfl))];exact hh
theorem aA.xk(h:aA w base P){a:Addr}(ha:a.block<base)(u:Value):aA (w.setCell a u) base P:=
 h.setOther (λ_ _ hr e=>by have:=(h.lt hr e).1;omega) u
variable[DecidableEq ι]
theorem upd_same(P:ι->Option Row)(i:ι)(r:Row):upd P i r i=some r:=by simp[upd]
theorem uG(P:ι->Option Row){i j:ι}(h:j≠i)(r:Row):upd P i r j=P j:=by simp[upd,h]
theorem DI{P:ι->Option Row}{i j:ι}{r a:Row}(h:upd P i r j=some a):(j=i/\a=r)\/(j≠i/\P j=some a):=by
 unfold upd at h;split at h
 ·rename_i e
  exact .inl ⟨e,by simpa using h.symm⟩
 ·rename_i e
  exact .inr ⟨e,h⟩
theorem aA.put(h:aA w base P){i:ι}{r':Row}{w':World}(hown:w'.ownsRow base r'.e r'.size r'.v r'.n r'.xs)
 (hkeep:∀j a,j≠i->P j=some a->w'.ownsRow base a.e a.size a.v a.n a.xs)
 (hfresh:∀j a,j≠i->P j=some a->∀g,a.v.ownBlock=some g->r'.v.ownBlock=some g->False):aA w' base (upd P i r'):=by
 refine⟨λj a ha=> ?_,λj k a b hjk ha hb g h1 h2=> ?_⟩
 ·rcases DI ha with⟨_,rfl⟩|⟨hj,ha⟩
  ·exact hown
  ·exact hkeep j a hj ha
 ·rcases DI ha with⟨hj,e1⟩|⟨hj,ha'⟩
  ·rcases DI hb with⟨hk,_⟩|⟨hk,hb'⟩
   ·exact hjk (by rw[hj,hk])
   ·subst e1
    exact hfresh k b hk hb' g h2 h1
  ·rcases DI hb with⟨hk,e1⟩|⟨hk,hb'⟩
   ·subst e1
    exact hfresh j a hj ha' g h1 h2
   ·exact h.apart j k a b hjk ha' hb' g h1 h2
theorem aA.new(h:aA w base P)(i:ι){w':World}{r:Row}(hg:w.grownBy w' none)(hown:w'.ownsRow base r.e r.size r.v r.n r.xs)(hv:∀g,r.v.ownBlock=some g->g=w.heap.size):aA w' base (upd P i r):=by
 refine h.put hown (λj a _ ha=>(h.own j a ha).kept hg ?_) (λj a _ ha g h1 h2=> ?_)
 ·cases a.v.ownBlock<;>simp
 ·have:=(h.lt ha h1).2
  have:=hv g h2;omega
theorem aA.turn(h:aA w base P){i:ι}{r r':Row}(hi:P i=some r){w':World}(hg:w.grownBy w' r.v.ownBlock)(hown:w'.ownsRow base r'.e r'.size r'.v r'.n r'.xs)
 (hat:∀g,r'.v.ownBlock=some g->r.v.ownBlock=some g\/g=w.heap.size):aA w' base (upd P i r'):=by
 refine h.put hown (λj a hj ha=>(h.own j a ha).kept hg ?_) (λj a hj ha g h1 h2=> ?_)
 ·cases e:a.v.ownBlock with
  |none=>exact .inl rfl
  |some g=>exact .inr λe'=>h.apart j i a r hj ha hi g e e'.symm
 ·rcases hat g h2 with e|e
  ·exact h.apart j i a r hj ha hi g h1 e
  ·have:=(h.lt ha h1).2;omega
theorem aA.store(h:aA w base P){i:ι}{g n cap e size:Nat}{xs:List Value}(hi:P i=some ⟨.slice (some ⟨g,0,none⟩) n cap,e,size,n,xs⟩)(j:Nat)(u:Value):
 aA (w.setCell ⟨g,j,none⟩ u) base (upd P i ⟨.slice (some ⟨g,0,none⟩) n cap,e,size,n,xs.set j u⟩):=by
 obtain⟨h1,h2⟩:=(h.own i _ hi).stored j u;exact h.turn (r':=⟨.slice (some ⟨g,0,none⟩) n cap,e,size,n,xs.set j u⟩) hi h2 h1 λg' hg'=> .inl hg'
omit [DecidableEq ι] in
theorem aA.cell(h:aA w base P){i:ι}{g n cap e size:Nat}{xs:List Value}(hi:P i=some ⟨.slice (some ⟨g,0,none⟩) n cap,e,size,n,xs⟩)(j:Nat)(hj:j<n*size):
 w.cell? ⟨g,j,none⟩=xs[j]?/\w.frozen? ⟨g,j,none⟩=false:=
 ⟨(h.own i _ hi).cellAt j hj,(h.own i _ hi).frozenAt j⟩
omit [DecidableEq ι] in
theorem aA.form(h:aA w base P){i:ι}{r:Row}(hi:P i=some r)(hn:0<r.n):∃g cap,r.v= .slice (some ⟨g,0,none⟩) r.n cap/\base<=g/\g<w.heap.size:=(h.own i r hi).form hn
omit [DecidableEq ι] in
theorem aA.slice(h:aA w base P){i:ι}{r:Row}(hi:P i=some r):∃a c,r.v= .slice a r.n c:=cO (h.own i r hi)
end
end Go.Proofs.YthbifaoaiggooaaGreatDoor
