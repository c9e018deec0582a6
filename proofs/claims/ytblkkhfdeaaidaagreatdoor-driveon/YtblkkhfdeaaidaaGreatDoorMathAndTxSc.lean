import Derived.WalkKit
import Derived.Deep.AppendLies
import Derived.Deep.Draws
import Derived.WalkSmall
import Derived.Shelf.Strings.BuilderK
import Derived.Shelf.Strconv.Itoa1
import Derived.Test.YtblkkhfdeaaidaaGreatDoorRows
import Derived.WalkSpells
import Derived.Deep.QuietTactic
import Derived.BigQuiet
import Derived.Shelf.Strconv.Itoa3
import Derived.Shelf.Strconv.AtoiAll
import Derived.Shelf.Strings.OnBuilder
import Derived.Lib.AppendIntMem
import Derived.Shelf.Small.Wraps
import Derived.Shelf.Strings.Search2
import Derived.Lib.CutLaws
import Derived.BigCall
import Derived.BigGuard
import Derived.Lib.BufferMore
set_option maxRecDepth 100000
namespace Go.Proofs.YtblkkhfdeaaidaaGreatDoor
abbrev Sy:=Bool×Int
abbrev Ru:=Int×List Sy
end Go.Proofs.YtblkkhfdeaaidaaGreatDoor
namespace Go.Proofs.YtblkkhfdeaaidaaGreatDoor
open Go.RowKit
def au(w:World)(lim:Nat)(rv:Value)(R:List Ru):Prop:=
 (∃ra rc,rv= .slice ra R.length rc)/\
 ∀q,q<R.length->∃b o rc qa qc,rv= .slice (some ⟨b,o,none⟩) R.length rc/\b<lim/\
  w.cell? ⟨b,o+q*2,none⟩=some (.int .i64 (R.getD q (0,[])).1)/\
  w.cell? ⟨b,o+(q*2+1),none⟩=some (.slice qa (R.getD q (0,[])).2.length qc)/\(R.getD q (0,[])).2.length<=qc/\
  ∀j,j<(R.getD q (0,[])).2.length->∃b' o',qa=some ⟨b',o',none⟩/\b'<lim/\
   w.cell? ⟨b',o'+j*2,none⟩=some (.bool ((R.getD q (0,[])).2.getD j (false,0)).1)/\
   w.cell? ⟨b',o'+(j*2+1),none⟩=some (.int .i64 ((R.getD q (0,[])).2.getD j (false,0)).2)
def aP(w:World)(lim:Nat)(dv:Value)(D:List Int):Prop:=
 (∃da dc,dv= .slice da D.length dc)/\
 ∀p,p<D.length->∃b o dc,dv= .slice (some ⟨b,o,none⟩) D.length dc/\b<lim/\w.cell? ⟨b,o+p,none⟩=some (.int .i64 (D.getD p 0))
theorem au.below{B:Nat}{w w':World}{rv:Value}{R:List Ru}(h:au w B rv R)(hb:Below B w w'):au w' B rv R:=by
 refine⟨h.1,fun q hq=> ?_⟩;obtain⟨b,o,rc,qa,qc,h1,h2,h3,h4,h6,h5⟩:=h.2 q hq;refine⟨b,o,rc,qa,qc,h1,h2,(hb.cell h2).trans h3,(hb.cell h2).trans h4,h6,fun j hj=> ?_⟩;obtain⟨b',o',k1,k2,k3,k4⟩:=h5 j hj;exact⟨b',o',k1,k2,(hb.cell k2).trans k3,(hb.cell k2).trans k4⟩
theorem aP.below{B:Nat}{w w':World}{dv:Value}{D:List Int}(h:aP w B dv D)(hb:Below B w w'):aP w' B dv D:=by
 refine⟨h.1,fun p hp=> ?_⟩;obtain⟨b,o,dc,h1,h2,h3⟩:=h.2 p hp;exact⟨b,o,dc,h1,h2,(hb.cell h2).trans h3⟩
theorem au.mono{B B':Nat}{w:World}{rv:Value}{R:List Ru}(h:au w B rv R)(hb:B<=B'):au w B' rv R:=by
 refine⟨h.1,fun q hq=> ?_⟩;obtain⟨b,o,rc,qa,qc,h1,h2,h3,h4,h6,h5⟩:=h.2 q hq;refine⟨b,o,rc,qa,qc,h1,by omega,h3,h4,h6,fun j hj=> ?_⟩;obtain⟨b',o',k1,k2,k3,k4⟩:=h5 j hj;exact⟨b',o',k1,by omega,k3,k4⟩
theorem aP.mono{B B':Nat}{w:World}{dv:Value}{D:List Int}(h:aP w B dv D)(hb:B<=B'):aP w B' dv D:=by
 refine⟨h.1,fun p hp=> ?_⟩;obtain⟨b,o,dc,h1,h2,h3⟩:=h.2 p hp;exact⟨b,o,dc,h1,by omega,h3⟩
theorem bK{w:World}{base:Nat}{e:TypeId}{size:Nat}{v:Value}{n:Nat}{xs:List Value}(h:w.ownsRow base e size v n xs):∃a c,v= .slice a n c:=by
 rcases h.2 with⟨rfl,rfl⟩|⟨g,cap,_,rfl,_⟩
 ·exact⟨_,_,rfl⟩
 ·exact⟨_,_,rfl⟩
theorem jf{w:World}{base base':Nat}{e:TypeId}{size:Nat}{v:Value}{n:Nat}{xs:List Value}(h:w.ownsRow base e size v n xs)(hb:base'<=base):w.ownsRow base' e size v n xs:=by
 refine⟨h.1,?_⟩;rcases h.2 with h2|⟨g,cap,cur,h1,h2,h3⟩
 ·exact .inl h2
 ·exact .inr ⟨g,cap,cur,h1,by omega,h3⟩
theorem own_below{B base:Nat}{e:TypeId}{size:Nat}{v:Value}{n:Nat}{xs:List Value}{w w':World}(h:w.ownsRow base e size v n xs)(hb:Below B w w')(hv:∀g,v.ownBlock=some g->g<B):w'.ownsRow base e size v n xs:=by
 refine⟨h.1,?_⟩;rcases h.2 with h2|⟨g,cap,cur,rfl,h2,h3,h4⟩
 ·exact .inl h2
 ·exact .inr ⟨g,cap,cur,rfl,h2,(hb.block g (hv g rfl)).trans h3,h4⟩
theorem au.boxed{w:World}{rv:Value}{R:List Ru}(h:au w w.heap.size rv R)(o:Obj):au (w.alloc o) (w.alloc o).heap.size rv R:=
 (h.below ((Below.refl _ _).alloc (Nat.le_refl _) o)).mono (by simp)
theorem aP.boxed{w:World}{dv:Value}{D:List Int}(h:aP w w.heap.size dv D)(o:Obj):aP (w.alloc o) (w.alloc o).heap.size dv D:=
 (h.below ((Below.refl _ _).alloc (Nat.le_refl _) o)).mono (by simp)
theorem iE{w:World}{a c:Addr}{u:Value}(h:a.block≠c.block\/a.off≠c.off):(w.setCell c u).cell? a=w.cell? a:=by
 rw[World.cell?_setCell_other];intro e;subst e;rcases h with h|h<;>exact h rfl
def fq(w:World)(lim:Nat)(qa:Option Addr)(Rt:List Sy):Prop:=
 ∀j,j<Rt.length->∃b' o',qa=some ⟨b',o',none⟩/\b'<lim/\
  w.cell? ⟨b',o'+j*2,none⟩=some (.bool (Rt.getD j (false,0)).1)/\
  w.cell? ⟨b',o'+(j*2+1),none⟩=some (.int .i64 (Rt.getD j (false,0)).2)
theorem fq.below{B:Nat}{w w':World}{qa:Option Addr}{Rt:List Sy}(h:fq w B qa Rt)(hb:Below B w w'):fq w' B qa Rt:=fun j hj=>by
 obtain⟨b',o',k1,k2,k3,k4⟩:=h j hj;exact⟨b',o',k1,k2,(hb.cell k2).trans k3,(hb.cell k2).trans k4⟩
theorem fq.mono{B B':Nat}{w:World}{qa:Option Addr}{Rt:List Sy}(h:fq w B qa Rt)(hb:B<=B'):fq w B' qa Rt:=fun j hj=>by
 obtain⟨b',o',k1,k2,k3,k4⟩:=h j hj;exact⟨b',o',k1,by omega,k3,k4⟩
end Go.Proofs.YtblkkhfdeaaidaaGreatDoor
namespace Go.Proofs.YtblkkhfdeaaidaaGreatDoor
open Go.Shelf Go.RowKit
def Tryz.buW_ren:Go.Shelf.Ren:=⟨fun|166=>7|240=>21|276=>42|n=>n,fun|0=>0|3=>3|4=>4|9=>9|20=>20|37=>30|70=>29|72=>32|75=>38|164=>79|5=>5|80=>35|n=>n,fun|n=>n⟩
theorem Tryz.buW:Go.Proofs.Lays.n166 Tryz.prog Tryz.buW_ren:={
 mixed:=by kernel_rfl
 f166:=Tryz.func7.trans (congrArg some (by kernel_rfl))
 f240:=Tryz.func21.trans (congrArg some (by kernel_rfl))
 f276:=Tryz.func42.trans (congrArg some (by kernel_rfl))
 t0:=Tryz.underlying0
 a0:=Tryz.isAgg0
 z0:=Tryz.sizeOf0
 v0:=Tryz.zeroValue0
 t3:=Tryz.underlying3
 a3:=Tryz.isAgg3
 z3:=Tryz.sizeOf3
 v3:=Tryz.zeroValue3
 t4:=Tryz.underlying4
 a4:=Tryz.isAgg4
 z4:=Tryz.sizeOf4
 v4:=Tryz.zeroValue4
 t9:=Tryz.underlying9
 a9:=Tryz.isAgg9
 z9:=Tryz.sizeOf9
 v9:=Tryz.zeroValue9
 t20:=Tryz.underlying20
 a20:=Tryz.isAgg20
 z20:=Tryz.sizeOf20
 v20:=Tryz.zeroValue20
 t37:=Tryz.underlying30
 a37:=Tryz.isAgg30
 z37:=Tryz.sizeOf30
 v37:=Tryz.zeroValue30
 t70:=Tryz.underlying29
 a70:=Tryz.isAgg29
 z70:=Tryz.sizeOf29
 v70:=Tryz.zeroValue29
 t72:=Tryz.underlying32
 a72:=Tryz.isAgg32
 z72:=Tryz.sizeOf32
 v72:=Tryz.zeroValue32
 t75:=Tryz.underlying38
 a75:=Tryz.isAgg38
 z75:=Tryz.sizeOf38
 v75:=Tryz.zeroValue38
 t164:=Tryz.underlying79
 a164:=Tryz.isAgg79
 z164:=Tryz.sizeOf79
 v164:=Tryz.zeroValue79 }
theorem Tryz.buWx:Builder.Extra Tryz.prog Tryz.buW_ren:={
 sizeBuilder:=by kernel_rfl
 liesBuilder:=by kernel_rfl
 t5:=Tryz.underlying5
 a5:=Tryz.isAgg5
 z5:=Tryz.sizeOf5
 v5:=Tryz.zeroValue5
 infoByte:=by kernel_rfl
 cellsByte:=by kernel_rfl
 sizeByte:=by kernel_rfl
 neB5:=by decide }
def Tryz.buS_ren:Go.Shelf.Ren:=⟨fun|169=>8|n=>n,fun|0=>0|3=>3|9=>9|37=>30|70=>29|72=>32|127=>45|5=>5|n=>n,fun|n=>n⟩
theorem Tryz.buS:Go.Proofs.Lays.n169 Tryz.prog Tryz.buS_ren:={
 mixed:=by kernel_rfl
 f169:=Tryz.func8.trans (congrArg some (by kernel_rfl))
 t0:=Tryz.underlying0
 a0:=Tryz.isAgg0
 z0:=Tryz.sizeOf0
 v0:=Tryz.zeroValue0
 t3:=Tryz.underlying3
 a3:=Tryz.isAgg3
 z3:=Tryz.sizeOf3
 v3:=Tryz.zeroValue3
 t9:=Tryz.underlying9
 a9:=Tryz.isAgg9
 z9:=Tryz.sizeOf9
 v9:=Tryz.zeroValue9
 t37:=Tryz.underlying30
 a37:=Tryz.isAgg30
 z37:=Tryz.sizeOf30
 v37:=Tryz.zeroValue30
 t70:=Tryz.underlying29
 a70:=Tryz.isAgg29
 z70:=Tryz.sizeOf29
 v70:=Tryz.zeroValue29
 t72:=Tryz.underlying32
 a72:=Tryz.isAgg32
 z72:=Tryz.sizeOf32
 v72:=Tryz.zeroValue32
 t127:=Tryz.underlying45
 a127:=Tryz.isAgg45
 z127:=Tryz.sizeOf45
 v127:=Tryz.zeroValue45 }
theorem Tryz.buSx:Builder.Extra Tryz.prog Tryz.buS_ren:={
 sizeBuilder:=by kernel_rfl
 liesBuilder:=by kernel_rfl
 t5:=Tryz.underlying5
 a5:=Tryz.isAgg5
 z5:=Tryz.sizeOf5
 v5:=Tryz.zeroValue5
 infoByte:=by kernel_rfl
 cellsByte:=by kernel_rfl
 sizeByte:=by kernel_rfl
 neB5:=by decide }
def Tryz.small_ren:Go.Shelf.Ren:=⟨fun|283=>128|n=>n,fun|3=>3|4=>4|9=>9|n=>n,fun|n=>n⟩
theorem Tryz.small:Go.Proofs.Lays.n283 Tryz.prog Tryz.small_ren:={
 mixed:=by kernel_rfl
 f283:=Tryz.func128.trans (congrArg some (by kernel_rfl))
 t3:=Tryz.underlying3
 a3:=Tryz.isAgg3
 z3:=Tryz.sizeOf3
 v3:=Tryz.zeroValue3
 t4:=Tryz.underlying4
 a4:=Tryz.isAgg4
 z4:=Tryz.sizeOf4
 v4:=Tryz.zeroValue4
 t9:=Tryz.underlying9
 a9:=Tryz.isAgg9
 z9:=Tryz.sizeOf9
 v9:=Tryz.zeroValue9 }
theorem WM(i:Nat)(h:i<100)(w:World):Calls Tryz.prog 128 #[.int .i64 i] w fun e w'=>e= .returned (.string ⟨(Lib.decDigits i).toArray⟩)/\w'=w:=Any.internal_strconv_small Tryz.small i h w
theorem WN(i:Nat)(h:i<100)(w:World):Calls Tryz.prog 98 #[.int .i64 i,.int .i64 10] w fun e w'=>e= .returned (.string ⟨(Lib.decDigits i).toArray⟩)/\w'=w:=by
 have sm:=WM i h w;have i0:decide ((0:Int)<=(i:Int))=true:=decide_eq_true (by omega);have i1:decide ((i:Int)<100)=true:=decide_eq_true (by omega);have i2:decide (i<100)=true:=decide_eq_true h;clear h
 go_enter Tryz.func98,Tryz.ntmps98
 go_wp2_with (go_at_call 128;refine sm.mono ?_;rintro e w2 ⟨rfl,h2⟩;obtain rfl:w=w2:=h2.symm;clear sm)
 go_ret;exact⟨rfl,rfl⟩
theorem WO(i:Nat)(h:i<100)(w:World):Calls Tryz.prog 76 #[.int .i64 i] w fun e w'=>e= .returned (.string ⟨(Lib.decDigits i).toArray⟩)/\w'=w:=by
 have sm:=WN i h w;clear h
 go_enter Tryz.func76,Tryz.ntmps76
 go_wp2_with (go_at_call 98;refine sm.mono ?_;rintro e w2 ⟨rfl,h2⟩;obtain rfl:w=w2:=h2.symm;clear sm)
 go_ret;exact⟨rfl,rfl⟩
theorem Fj(i:Nat)(h:i<100)(w:World):Calls Tryz.prog 55 #[.int .i64 i] w fun e w'=>e= .returned (.string ⟨(Lib.decDigits i).toArray⟩)/\w'=w:=by
 have sm:=WO i h w;clear h
 go_enter Tryz.func55,Tryz.ntmps55
 go_wp2_with (go_at_call 76;refine sm.mono ?_;rintro e w2 ⟨rfl,h2⟩;obtain rfl:w=w2:=h2.symm;clear sm)
 go_ret;exact⟨rfl,rfl⟩
theorem WQ(B b:Nat)(bs:List Value)(s:ByteArray)(w:World)(h:Lib.IsBuilderF 32 5 B b bs w)(hlen:bs.length+s.size<=140737488355328)(hBw:B<=w.heap.size):
 Calls Tryz.prog 7 #[.pointer (some ⟨b,0,none⟩),.string s] w fun e w'=>e= .returned (.tuple #[.int .i64 s.size,.nilIface])/\(Lib.BuilderAtF 32 5 B b (.pointer (some ⟨b,0,none⟩)) (bs++Lib.strCells s) w'/\Below B w w'/\Lib.OthersKept 5 (some b) w w'):=Any.Builder_WriteString_k Tryz.buW Tryz.buWx B b bs s w h hlen hBw
theorem NM(B b:Nat)(l:List UInt8)(w:World)(h:Lib.IsBuilderF 32 5 B b (Lib.byteCells l) w)(hBw:B<=w.heap.size):
 Calls Tryz.prog 8 #[.pointer (some ⟨b,0,none⟩)] w fun e w'=>e= .returned (.string ⟨l.toArray⟩)/\(Lib.IsBuilderF 32 5 B b (Lib.byteCells l) w'/\Below B w w'/\Lib.OthersKept 5 (some b) w w'):=Any.Builder_String_any_k Tryz.buS Tryz.buSx B b l w h hBw
noncomputable def Tryz.itoa_ren:Go.Shelf.Ren:=⟨fun|129=>159|171=>55|243=>76|246=>98|283=>128|284=>129|285=>130|286=>131|317=>158|318=>160|319=>161|320=>162|337=>178|338=>179|n=>n,fun|0=>0|2=>2|3=>3|4=>4|5=>5|9=>9|20=>20|37=>30|46=>83|51=>126|53=>214|171=>213|173=>217|212=>240|213=>241|232=>281|233=>282|n=>n,fun|17=>(Tryz.prog.globals.findIdx? (fun x=>x.name== "internal/strconv.uint64pow10")).getD 0|18=>(Tryz.prog.globals.findIdx? (fun x=>x.name== "math/bits.deBruijn32tab")).getD 0|19=>(Tryz.prog.globals.findIdx? (fun x=>x.name== "math/bits.deBruijn64tab")).getD 0|n=>n⟩
theorem Tryz.itoa:Go.Proofs.LaysM.n171 Tryz.prog Tryz.itoa_ren:={
 mixed:=by kernel_rfl
 f129:=Tryz.func159.trans (congrArg some (by kernel_rfl))
 f171:=Tryz.func55.trans (congrArg some (by kernel_rfl))
 f243:=Tryz.func76.trans (congrArg some (by kernel_rfl))
 f246:=Tryz.func98.trans (congrArg some (by kernel_rfl))
 f283:=Tryz.func128.trans (congrArg some (by kernel_rfl))
 f284:=Tryz.func129.trans (congrArg some (by kernel_rfl))
 f285:=Tryz.func130.trans (congrArg some (by kernel_rfl))
 f286:=Tryz.func131.trans (congrArg some (by kernel_rfl))
 f317:=Tryz.func158.trans (congrArg some (by kernel_rfl))
 f318:=Tryz.func160.trans (congrArg some (by kernel_rfl))
 f319:=Tryz.func161.trans (congrArg some (by kernel_rfl))
 f320:=Tryz.func162.trans (congrArg some (by kernel_rfl))
 f337:=Tryz.func178.trans (congrArg some (by kernel_rfl))
 f338:=Tryz.func179.trans (congrArg some (by kernel_rfl))
 t0:=Tryz.underlying0
 a0:=Tryz.isAgg0
 z0:=Tryz.sizeOf0
 v0:=Tryz.zeroValue0
 t2:=Tryz.underlying2
 a2:=Tryz.isAgg2
 z2:=Tryz.sizeOf2
 v2:=Tryz.zeroValue2
 t3:=Tryz.underlying3
 a3:=Tryz.isAgg3
 z3:=Tryz.sizeOf3
 v3:=Tryz.zeroValue3
 t4:=Tryz.underlying4
 a4:=Tryz.isAgg4
 z4:=Tryz.sizeOf4
 v4:=Tryz.zeroValue4
 t5:=Tryz.underlying5
 a5:=Tryz.isAgg5
 z5:=Tryz.sizeOf5
 v5:=Tryz.zeroValue5
 t9:=Tryz.underlying9
 a9:=Tryz.isAgg9
 z9:=Tryz.sizeOf9
 v9:=Tryz.zeroValue9
 t20:=Tryz.underlying20
 a20:=Tryz.isAgg20
 z20:=Tryz.sizeOf20
 v20:=Tryz.zeroValue20
 t37:=Tryz.underlying30
 a37:=Tryz.isAgg30
 z37:=Tryz.sizeOf30
 v37:=Tryz.zeroValue30
 t46:=Tryz.underlying83
 a46:=Tryz.isAgg83
 z46:=Tryz.sizeOf83
 v46:=Tryz.zeroValue83
 t51:=Tryz.underlying126
 a51:=Tryz.isAgg126
 z51:=Tryz.sizeOf126
 v51:=Tryz.zeroValue126
 t53:=Tryz.underlying214
 a53:=Tryz.isAgg214
 z53:=Tryz.sizeOf214
 v53:=Tryz.zeroValue214
 t171:=Tryz.underlying213
 a171:=Tryz.isAgg213
 z171:=Tryz.sizeOf213
 v171:=Tryz.zeroValue213
 t173:=Tryz.underlying217
 a173:=Tryz.isAgg217
 z173:=Tryz.sizeOf217
 v173:=Tryz.zeroValue217
 t212:=Tryz.underlying240
 a212:=Tryz.isAgg240
 z212:=Tryz.sizeOf240
 v212:=Tryz.zeroValue240
 t213:=Tryz.underlying241
 a213:=Tryz.isAgg241
 z213:=Tryz.sizeOf241
 t232:=Tryz.underlying281
 a232:=Tryz.isAgg281
 z232:=Tryz.sizeOf281
 v232:=Tryz.zeroValue281
 t233:=Tryz.underlying282
 a233:=Tryz.isAgg282
 z233:=Tryz.sizeOf282
 v233:=Tryz.zeroValue282
 g17:=by kernel_rfl
 g18:=by kernel_rfl
 g19:=by kernel_rfl
 i0:=by kernel_rfl
 i2:=by kernel_rfl
 i3:=by kernel_rfl
 i4:=by kernel_rfl
 i5:=by kernel_rfl
 i9:=by kernel_rfl
 i20:=by kernel_rfl
 i37:=by kernel_rfl
 i46:=by kernel_rfl
 i51:=by kernel_rfl
 i53:=by kernel_rfl
 i171:=by kernel_rfl
 i173:=by kernel_rfl
 i212:=by kernel_rfl
 i232:=by kernel_rfl
 i233:=by kernel_rfl
 m17:=by kernel_rfl
 m18:=by kernel_rfl
 m19:=by kernel_rfl }
theorem NN(n:Int)(h0: -9223372036854775808<=n)(h1:n<=9223372036854775807)(w:World)(ht:Lib.TabIs Tryz.prog w "internal/strconv.uint64pow10" .u64 Lib.pow10Tab):
 Calls Tryz.prog 55 #[.int .i64 n] w fun e w'=>e= .returned (.string ⟨(Lib.itoa n).toArray⟩)/\Below w.heap.size w w':=by
 refine(Any.strconv_Itoa Tryz.itoa n h0 h1 w ht).mono ?_;rintro e w' ⟨h,k,os,rfl⟩;exact⟨h,Lib.below_grow _ w (Nat.le_refl _) k os⟩
noncomputable def Tryz.atoi_ren:Go.Shelf.Ren:=⟨fun|129=>159|171=>55|172=>87|205=>168|243=>76|244=>111|245=>112|246=>98|247=>140|279=>141|280=>142|281=>143|282=>144|283=>128|284=>129|285=>130|286=>131|287=>166|316=>167|317=>158|318=>160|319=>161|320=>162|321=>189|322=>190|337=>178|338=>179|n=>n,fun|0=>0|2=>2|3=>3|4=>4|5=>5|9=>9|20=>20|21=>21|37=>30|46=>83|51=>126|53=>214|75=>38|76=>39|80=>35|85=>226|127=>45|143=>275|145=>277|167=>225|168=>228|171=>213|173=>217|175=>244|210=>247|212=>240|213=>241|232=>281|233=>282|n=>n,fun|15=>(Tryz.prog.globals.findIdx? (fun x=>x.name== "strconv.ErrSyntax")).getD 0|16=>(Tryz.prog.globals.findIdx? (fun x=>x.name== "strconv.ErrRange")).getD 0|17=>(Tryz.prog.globals.findIdx? (fun x=>x.name== "internal/strconv.uint64pow10")).getD 0|18=>(Tryz.prog.globals.findIdx? (fun x=>x.name== "math/bits.deBruijn32tab")).getD 0|19=>(Tryz.prog.globals.findIdx? (fun x=>x.name== "math/bits.deBruijn64tab")).getD 0|n=>n⟩
theorem Tryz.atoi:Go.Proofs.LaysC.n172 Tryz.prog Tryz.atoi_ren:={
 mixed:=by kernel_rfl
 f129:=Tryz.func159.trans (congrArg some (by kernel_rfl))
 f171:=Tryz.func55.trans (congrArg some (by kernel_rfl))
 f172:=Tryz.func87.trans (congrArg some (by kernel_rfl))
 f205:=Tryz.func168.trans (congrArg some (by kernel_rfl))
 f243:=Tryz.func76.trans (congrArg some (by kernel_rfl))
 f244:=Tryz.func111.trans (congrArg some (by kernel_rfl))
 f245:=Tryz.func112.trans (congrArg some (by kernel_rfl))
 f246:=Tryz.func98.trans (congrArg some (by kernel_rfl))
 f247:=Tryz.func140.trans (congrArg some (by kernel_rfl))
 f279:=Tryz.func141.trans (congrArg some (by kernel_rfl))
 f280:=Tryz.func142.trans (congrArg some (by kernel_rfl))
 f281:=Tryz.func143.trans (congrArg some (by kernel_rfl))
 f282:=Tryz.func144.trans (congrArg some (by kernel_rfl))
 f283:=Tryz.func128.trans (congrArg some (by kernel_rfl))
 f284:=Tryz.func129.trans (congrArg some (by kernel_rfl))
 f285:=Tryz.func130.trans (congrArg some (by kernel_rfl))
 f286:=Tryz.func131.trans (congrArg some (by kernel_rfl))
 f287:=Tryz.func166.trans (congrArg some (by kernel_rfl))
 f316:=Tryz.func167.trans (congrArg some (by kernel_rfl))
 f317:=Tryz.func158.trans (congrArg some (by kernel_rfl))
 f318:=Tryz.func160.trans (congrArg some (by kernel_rfl))
 f319:=Tryz.func161.trans (congrArg some (by kernel_rfl))
 f320:=Tryz.func162.trans (congrArg some (by kernel_rfl))
 f321:=Tryz.func189.trans (congrArg some (by kernel_rfl))
 f322:=Tryz.func190.trans (congrArg some (by kernel_rfl))
 f337:=Tryz.func178.trans (congrArg some (by kernel_rfl))
 f338:=Tryz.func179.trans (congrArg some (by kernel_rfl))
 t0:=Tryz.underlying0
 a0:=Tryz.isAgg0
 z0:=Tryz.sizeOf0
 v0:=Tryz.zeroValue0
 t2:=Tryz.underlying2
 a2:=Tryz.isAgg2
 z2:=Tryz.sizeOf2
 v2:=Tryz.zeroValue2
 t3:=Tryz.underlying3
 a3:=Tryz.isAgg3
 z3:=Tryz.sizeOf3
 v3:=Tryz.zeroValue3
 t4:=Tryz.underlying4
 a4:=Tryz.isAgg4
 z4:=Tryz.sizeOf4
 v4:=Tryz.zeroValue4
 t5:=Tryz.underlying5
 a5:=Tryz.isAgg5
 z5:=Tryz.sizeOf5
 v5:=Tryz.zeroValue5
 t9:=Tryz.underlying9
 a9:=Tryz.isAgg9
 z9:=Tryz.sizeOf9
 v9:=Tryz.zeroValue9
 t20:=Tryz.underlying20
 a20:=Tryz.isAgg20
 z20:=Tryz.sizeOf20
 v20:=Tryz.zeroValue20
 t21:=Tryz.underlying21
 a21:=Tryz.isAgg21
 z21:=Tryz.sizeOf21
 v21:=Tryz.zeroValue21
 t37:=Tryz.underlying30
 a37:=Tryz.isAgg30
 z37:=Tryz.sizeOf30
 v37:=Tryz.zeroValue30
 t46:=Tryz.underlying83
 a46:=Tryz.isAgg83
 z46:=Tryz.sizeOf83
 v46:=Tryz.zeroValue83
 t51:=Tryz.underlying126
 a51:=Tryz.isAgg126
 z51:=Tryz.sizeOf126
 v51:=Tryz.zeroValue126
 t53:=Tryz.underlying214
 a53:=Tryz.isAgg214
 z53:=Tryz.sizeOf214
 v53:=Tryz.zeroValue214
 t75:=Tryz.underlying38
 a75:=Tryz.isAgg38
 z75:=Tryz.sizeOf38
 v75:=Tryz.zeroValue38
 t76:=Tryz.underlying39
 a76:=Tryz.isAgg39
 z76:=Tryz.sizeOf39
 v76:=Tryz.zeroValue39
 t85:=Tryz.underlying226
 a85:=Tryz.isAgg226
 z85:=Tryz.sizeOf226
 v85:=Tryz.zeroValue226
 t127:=Tryz.underlying45
 a127:=Tryz.isAgg45
 z127:=Tryz.sizeOf45
 v127:=Tryz.zeroValue45
 t143:=Tryz.underlying275
 a143:=Tryz.isAgg275
 z143:=Tryz.sizeOf275
 v143:=Tryz.zeroValue275
 t145:=Tryz.underlying277
 a145:=Tryz.isAgg277
 z145:=Tryz.sizeOf277
 v145:=Tryz.zeroValue277
 t167:=Tryz.underlying225
 a167:=Tryz.isAgg225
 z167:=Tryz.sizeOf225
 v167:=Tryz.zeroValue225
 t168:=Tryz.underlying228
 a168:=Tryz.isAgg228
 z168:=Tryz.sizeOf228
 v168:=Tryz.zeroValue228
 t171:=Tryz.underlying213
 a171:=Tryz.isAgg213
 z171:=Tryz.sizeOf213
 v171:=Tryz.zeroValue213
 t173:=Tryz.underlying217
 a173:=Tryz.isAgg217
 z173:=Tryz.sizeOf217
 v173:=Tryz.zeroValue217
 t175:=Tryz.underlying244
 a175:=Tryz.isAgg244
 z175:=Tryz.sizeOf244
 v175:=Tryz.zeroValue244
 t210:=Tryz.underlying247
 a210:=Tryz.isAgg247
 z210:=Tryz.sizeOf247
 v210:=Tryz.zeroValue247
 t212:=Tryz.underlying240
 a212:=Tryz.isAgg240
 z212:=Tryz.sizeOf240
 v212:=Tryz.zeroValue240
 t213:=Tryz.underlying241
 a213:=Tryz.isAgg241
 z213:=Tryz.sizeOf241
 t232:=Tryz.underlying281
 a232:=Tryz.isAgg281
 z232:=Tryz.sizeOf281
 v232:=Tryz.zeroValue281
 t233:=Tryz.underlying282
 a233:=Tryz.isAgg282
 z233:=Tryz.sizeOf282
 v233:=Tryz.zeroValue282
 g15:=by kernel_rfl
 g16:=by kernel_rfl
 g17:=by kernel_rfl
 g18:=by kernel_rfl
 g19:=by kernel_rfl
 t80:=Tryz.underlying35
 a80:=Tryz.isAgg35
 z80:=Tryz.sizeOf35
 v80:=Tryz.zeroValue35
 i0:=by kernel_rfl
 i2:=by kernel_rfl
 i3:=by kernel_rfl
 i4:=by kernel_rfl
 i5:=by kernel_rfl
 i9:=by kernel_rfl
 i20:=by kernel_rfl
 i21:=by kernel_rfl
 i37:=by kernel_rfl
 i46:=by kernel_rfl
 i51:=by kernel_rfl
 i53:=by kernel_rfl
 i75:=by kernel_rfl
 i76:=by kernel_rfl
 i80:=by kernel_rfl
 i85:=by kernel_rfl
 i127:=by kernel_rfl
 i143:=by kernel_rfl
 i145:=by kernel_rfl
 i167:=by kernel_rfl
 i168:=by kernel_rfl
 i171:=by kernel_rfl
 i173:=by kernel_rfl
 i175:=by kernel_rfl
 i210:=by kernel_rfl
 i212:=by kernel_rfl
 i232:=by kernel_rfl
 i233:=by kernel_rfl
 m15:=by kernel_rfl
 m16:=by kernel_rfl
 m17:=by kernel_rfl
 m18:=by kernel_rfl
 m19:=by kernel_rfl
 c0:=by kernel_rfl
 c2:=by kernel_rfl
 c3:=by kernel_rfl
 c4:=by kernel_rfl
 c5:=by kernel_rfl
 c9:=by kernel_rfl
 c20:=by kernel_rfl
 c21:=by kernel_rfl
 c37:=by kernel_rfl
 c46:=by kernel_rfl
 c51:=by kernel_rfl
 c53:=by kernel_rfl
 c75:=by kernel_rfl
 c76:=by kernel_rfl
 c80:=by kernel_rfl
 c85:=by kernel_rfl
 c127:=by kernel_rfl
 c143:=by kernel_rfl
 c145:=by kernel_rfl
 c167:=by kernel_rfl
 c168:=by kernel_rfl
 c171:=by kernel_rfl
 c173:=by kernel_rfl
 c175:=by kernel_rfl
 c210:=by kernel_rfl
 c212:=by kernel_rfl
 c213:=by kernel_rfl
 c232:=by kernel_rfl
 c233:=by kernel_rfl }
theorem WR(s:List UInt8)(hs:s.length<=281474976710656)(v:Int)(h:Lib.atoiAll s= .ok v)(w:World):
 Calls Tryz.prog 87 #[.string ⟨s.toArray⟩] w fun e w'=>e= .returned (.tuple #[.int .i64 v,.nilIface])/\Below w.heap.size w w':=by
 refine(Any.strconv_Atoi_ok Tryz.atoi ⟨s.toArray⟩ (by simp[ByteArray.size];omega) v (by simpa using h) w).mono ?_;rintro e w' ⟨h,h2⟩;refine⟨h,?_⟩;rcases h2 with rfl|⟨t,rfl⟩
 ·exact Below.refl _ _
 ·exact Lib.bytesWorld_below _ _ _
def Tryz.join_ren:Go.Shelf.Ren:=⟨fun|156=>56|165=>77|166=>7|169=>8|240=>21|241=>99|276=>42|277=>132|n=>n,fun|0=>0|3=>3|4=>4|5=>5|9=>9|20=>20|31=>96|37=>30|70=>29|72=>32|75=>38|76=>39|80=>35|127=>45|164=>79|n=>n,fun|n=>n⟩
theorem Tryz.join:Go.Proofs.Lays.n156 Tryz.prog Tryz.join_ren:={
 mixed:=by kernel_rfl
 f156:=Tryz.func56.trans (congrArg some (by kernel_rfl))
 f165:=Tryz.func77.trans (congrArg some (by kernel_rfl))
 f166:=Tryz.func7.trans (congrArg some (by kernel_rfl))
 f169:=Tryz.func8.trans (congrArg some (by kernel_rfl))
 f240:=Tryz.func21.trans (congrArg some (by kernel_rfl))
 f241:=Tryz.func99.trans (congrArg some (by kernel_rfl))
 f276:=Tryz.func42.trans (congrArg some (by kernel_rfl))
 f277:=Tryz.func132.trans (congrArg some (by kernel_rfl))
 t0:=Tryz.underlying0
 a0:=Tryz.isAgg0
 z0:=Tryz.sizeOf0
 v0:=Tryz.zeroValue0
 t3:=Tryz.underlying3
 a3:=Tryz.isAgg3
 z3:=Tryz.sizeOf3
 v3:=Tryz.zeroValue3
 t4:=Tryz.underlying4
 a4:=Tryz.isAgg4
 z4:=Tryz.sizeOf4
 v4:=Tryz.zeroValue4
 t9:=Tryz.underlying9
 a9:=Tryz.isAgg9
 z9:=Tryz.sizeOf9
 v9:=Tryz.zeroValue9
 t20:=Tryz.underlying20
 a20:=Tryz.isAgg20
 z20:=Tryz.sizeOf20
 v20:=Tryz.zeroValue20
 t31:=Tryz.underlying96
 a31:=Tryz.isAgg96
 z31:=Tryz.sizeOf96
 v31:=Tryz.zeroValue96
 t37:=Tryz.underlying30
 a37:=Tryz.isAgg30
 z37:=Tryz.sizeOf30
 v37:=Tryz.zeroValue30
 t70:=Tryz.underlying29
 a70:=Tryz.isAgg29
 z70:=Tryz.sizeOf29
 v70:=Tryz.zeroValue29
 t72:=Tryz.underlying32
 a72:=Tryz.isAgg32
 z72:=Tryz.sizeOf32
 v72:=Tryz.zeroValue32
 t75:=Tryz.underlying38
 a75:=Tryz.isAgg38
 z75:=Tryz.sizeOf38
 v75:=Tryz.zeroValue38
 t76:=Tryz.underlying39
 a76:=Tryz.isAgg39
 z76:=Tryz.sizeOf39
 v76:=Tryz.zeroValue39
 t127:=Tryz.underlying45
 a127:=Tryz.isAgg45
 z127:=Tryz.sizeOf45
 v127:=Tryz.zeroValue45
 t164:=Tryz.underlying79
 a164:=Tryz.isAgg79
 z164:=Tryz.sizeOf79
 v164:=Tryz.zeroValue79 }
theorem Tryz.joinx:Builder.Extra Tryz.prog Tryz.join_ren:={
 sizeBuilder:=by kernel_rfl
 liesBuilder:=by kernel_rfl
 t5:=Tryz.underlying5
 a5:=Tryz.isAgg5
 z5:=Tryz.sizeOf5
 v5:=Tryz.zeroValue5
 infoByte:=by kernel_rfl
 cellsByte:=by kernel_rfl
 sizeByte:=by kernel_rfl
 neB5:=by decide }
def NP(w:World)(g:Nat):Prop:=∃ev,w.cell? ⟨g,0,none⟩=some ev/\(ev= .nilIface\/∃te pe,ev= .iface te pe)
structure Jr(w:World):Prop where
 tab:Lib.TabIs Tryz.prog w "internal/strconv.uint64pow10" .u64 Lib.pow10Tab
 es:NP w (Tryz.atoi_ren.g 15)
 er:NP w (Tryz.atoi_ren.g 16)
def cB(G:Nat)(w:World):Prop:=∀w':World,(∀k,k<G->w'.heap[k]?=w.heap[k]?)->Jr w'
theorem cB.at{G:Nat}{w:World}(h:cB G w):Jr w:=h w fun _ _=>rfl
theorem cB.on{G:Nat}{w w':World}(h:cB G w)(hk:∀k,k<G->w'.heap[k]?=w.heap[k]?):cB G w':=fun w2 h2=>h w2 fun k hlt=>(h2 k hlt).trans (hk k hlt)
theorem cB.below{G B:Nat}{w w':World}(h:cB G w)(hb:Below B w w')(hG:G<=B):cB G w':=h.on fun k hk=>hb.block k (by omega)
theorem WS(s:List UInt8)(hs:s.length<=281474976710656)(h:∀v,Lib.atoiAll s≠ .ok v)(w:World)(hE:Jr w):
 Calls Tryz.prog 87 #[.string ⟨s.toArray⟩] w fun e w'=> ∃n t a,e= .returned (.tuple #[.int .i64 n,.iface t (.pointer (some a))])/\Below w.heap.size w w':=by
 have hz:(⟨s.toArray⟩:ByteArray).size<=281474976710656:=by simpa [ByteArray.size] using hs
 cases hc:Lib.atoiAll s
 ·exact absurd hc (h _)
 ·obtain⟨ev,h1,h2⟩:=hE.es
  refine(Any.strconv_Atoi_syntax Tryz.atoi ⟨s.toArray⟩ hz (by simpa using hc) ev w h1 h2).mono ?_;rintro e w' ⟨N,h3,_,_,h4⟩;exact⟨_,_,_,h3,h4⟩
 ·obtain⟨ev,h1,h2⟩:=hE.er
  refine(Any.strconv_Atoi_range Tryz.atoi ⟨s.toArray⟩ hz (by simpa using hc) ev w h1 h2).mono ?_;rintro e w' ⟨N,h3,_,_,h4⟩;exact⟨_,_,_,h3,h4⟩
theorem WU(bk c:Nat)(xs:List (List UInt8))(w:World)(hc:∀(j:Nat) x,xs[j]?=some x->w.cell? ⟨bk,j,none⟩=some (.string ⟨x.toArray⟩))(hbk:bk<w.heap.size)(hN:xs.length<=1000000)(hcap:xs.length<=c)(hlen:(Lib.join xs [32]).length<=1000000000):
 Calls Tryz.prog 56 #[.slice (some ⟨bk,0,none⟩) xs.length c,.string ⟨#[32]⟩] w fun e w'=>e= .returned (.string ⟨(Lib.join xs [32]).toArray⟩)/\Below w.heap.size w w':=by
 have hm:(xs.map fun x=>(⟨x.toArray⟩:ByteArray)).map (·.data.toList)=xs:=by simp[Function.comp_def]
 have:=Any.strings_Join Tryz.join Tryz.joinx bk 0 c (xs.map fun x=>⟨x.toArray⟩) ⟨#[32]⟩ w (fun j x hx=>by
  rw[List.getElem?_map,Option.map_eq_some_iff]at hx;obtain⟨y,hy,rfl⟩:=hx;rw[Nat.zero_add]
  exact hc j y hy) hbk (by simp;omega) (by simpa using hcap) (by rw[hm];show (Lib.join xs [32]).length<=_;omega)
 rw[hm,List.length_map]at this;exact this
def Tryz.cutP_ren:Go.Shelf.Ren:=⟨fun|103=>10|206=>47|210=>23|n=>n,fun|3=>3|4=>4|9=>9|24=>42|n=>n,fun|n=>n⟩
theorem Tryz.cutP:Go.Proofs.Lays.n103 Tryz.prog Tryz.cutP_ren:={
 mixed:=by kernel_rfl
 f103:=Tryz.func10.trans (congrArg some (by kernel_rfl))
 f206:=Tryz.func47.trans (congrArg some (by kernel_rfl))
 f210:=Tryz.func23.trans (congrArg some (by kernel_rfl))
 t3:=Tryz.underlying3
 a3:=Tryz.isAgg3
 z3:=Tryz.sizeOf3
 v3:=Tryz.zeroValue3
 t4:=Tryz.underlying4
 a4:=Tryz.isAgg4
 z4:=Tryz.sizeOf4
 v4:=Tryz.zeroValue4
 t9:=Tryz.underlying9
 a9:=Tryz.isAgg9
 z9:=Tryz.sizeOf9
 v9:=Tryz.zeroValue9
 t24:=Tryz.underlying42
 a24:=Tryz.isAgg42
 z24:=Tryz.sizeOf42
 v24:=Tryz.zeroValue42 }
theorem NQ(s p:ByteArray)(w:World):Calls Tryz.prog 10 #[.string s,.string p] w fun e w'=>e= .returned (.tuple #[.string ⟨(Lib.trimPrefix s.data.toList p.data.toList).toArray⟩,.bool (Lib.hasPrefix s.data.toList p.data.toList)])/\w'=w:=Any.strings_CutPrefix Tryz.cutP s p w
noncomputable def Tryz.idx_ren:Go.Shelf.Ren:=⟨fun|217=>43|219=>22|224=>45|225=>44|266=>69|267=>46|314=>70|n=>n,fun|3=>3|4=>4|5=>5|9=>9|46=>83|51=>126|146=>127|n=>n,fun|1=>(Tryz.prog.globals.findIdx? (fun x=>x.name== "internal/bytealg.MaxLen")).getD 0|n=>n⟩
theorem Tryz.idx:Go.Proofs.Lays.n219 Tryz.prog Tryz.idx_ren:={
 mixed:=by kernel_rfl
 f217:=Tryz.func43.trans (congrArg some (by kernel_rfl))
 f219:=Tryz.func22.trans (congrArg some (by kernel_rfl))
 f224:=Tryz.func45.trans (congrArg some (by kernel_rfl))
 f225:=Tryz.func44.trans (congrArg some (by kernel_rfl))
 f266:=Tryz.func69.trans (congrArg some (by kernel_rfl))
 f267:=Tryz.func46.trans (congrArg some (by kernel_rfl))
 f314:=Tryz.func70.trans (congrArg some (by kernel_rfl))
 t3:=Tryz.underlying3
 a3:=Tryz.isAgg3
 z3:=Tryz.sizeOf3
 v3:=Tryz.zeroValue3
 t4:=Tryz.underlying4
 a4:=Tryz.isAgg4
 z4:=Tryz.sizeOf4
 v4:=Tryz.zeroValue4
 t5:=Tryz.underlying5
 a5:=Tryz.isAgg5
 z5:=Tryz.sizeOf5
 v5:=Tryz.zeroValue5
 t9:=Tryz.underlying9
 a9:=Tryz.isAgg9
 z9:=Tryz.sizeOf9
 v9:=Tryz.zeroValue9
 t46:=Tryz.underlying83
 a46:=Tryz.isAgg83
 z46:=Tryz.sizeOf83
 v46:=Tryz.zeroValue83
 t51:=Tryz.underlying126
 a51:=Tryz.isAgg126
 z51:=Tryz.sizeOf126
 v51:=Tryz.zeroValue126
 t146:=Tryz.underlying127
 a146:=Tryz.isAgg127
 z146:=Tryz.sizeOf127
 v146:=Tryz.zeroValue127
 g1:=by kernel_rfl }
theorem NR(s:ByteArray)(c:UInt8)(w:World):Calls Tryz.prog 22 #[.string s,.string ⟨#[c]⟩] w fun e w'=>e= .returned (.int .i64 (Lib.indexByte s.data.toList c))/\w'=w:=Any.stringslite_Index_one Tryz.idx s c w
end Go.Proofs.YtblkkhfdeaaidaaGreatDoor
namespace Go.Proofs.YtblkkhfdeaaidaaGreatDoor
open Go.RowKit
def sD(c:UInt8):Bool:=decide (48<=c.toNat)&&decide (c.toNat<=57)
def yu(r:List UInt8):Nat->Nat->Nat->Nat×Nat
 |0,n,k=>(n,k)
 |f+1,n,k=>if (decide (k<r.length)&&sD (r.getD k 0)&&(k==0||decide (0<n)))=true then yu r f (n*10+((r.getD k 0).toNat-48)) (k+1) else (n,k)
def fu(r:List UInt8):Nat×Nat:=yu r 4 0 0
theorem ai{w:World}{b i:Nat}{cs:Array Value}{ty:TypeId}{f:Nat×Nat}{u:Value}(h:w.heap[b]?=some (.cells cs ty f))(hu:cs[i]?=some u):w.cell? ⟨b,i,none⟩=some u:=by
 unfold World.cell?;simp[h,hu]
theorem bD{w:World}{b i:Nat}{cs:Array Value}{ty:TypeId}(h:w.heap[b]?=some (.cells cs ty (0,0))):w.frozen? ⟨b,i,none⟩=false:=by
 unfold World.frozen?;simp[h]
def bF(w:World)(b:Nat)(r:List UInt8)(g:Bool):Prop:=w.heap[b]?=some (.cells #[.string ⟨r.toArray⟩,.bool g] 210 (0,0))
structure But(b:Nat)(w w':World):Prop where
 os:w'.os=w.os
 tape:w'.tape=w.tape
 output:w'.output=w.output
 size:w.heap.size<=w'.heap.size
 block:∀k,k<w.heap.size->k≠b->w'.heap[k]?=w.heap[k]?
section
variable{b:Nat}{w w' a:World}{r:List UInt8}{g:Bool}
theorem But.refl(b:Nat)(w:World):But b w w:=⟨rfl,rfl,rfl,Nat.le_refl _,fun _ _ _=>rfl⟩
theorem But.trans(h:But b a w)(k:But b w w'):But b a w':=⟨k.os.trans h.os,k.tape.trans h.tape,k.output.trans h.output,Nat.le_trans h.size k.size,fun i hi hb=>(k.block i (Nat.lt_of_lt_of_le hi h.size) hb).trans (h.block i hi hb)⟩
theorem But.of(b:Nat)(h:Below w.heap.size w w'):But b w w':=⟨h.os,h.tape,h.output,h.size,fun i hi _=>h.block i hi⟩
theorem But.below(h:But b w w'){B:Nat}(hb:B<=b)(hB:B<=w.heap.size):Below B w w':=⟨h.os,h.tape,h.output,h.size,fun i hi=>h.block i (by omega) (by omega)⟩
theorem But.set(b i:Nat)(u:Value):But b w (w.setCell ⟨b,i,none⟩ u):=by
 have h:Below 0 w (w.setCell ⟨b,i,none⟩ u):=(Below.refl _ _).setCell (Nat.zero_le _) u;exact⟨h.os,h.tape,h.output,h.size,fun k _ hk=>Below.heap_setCell w _ u k hk⟩
theorem bF.set0(h:bF w b r g)(r':List UInt8):bF (w.setCell ⟨b,0,none⟩ (.string ⟨r'.toArray⟩)) b r' g:=Lib.heap_setCell_same h _
theorem bF.set1(h:bF w b r g)(g':Bool):bF (w.setCell ⟨b,1,none⟩ (.bool g')) b r g':=Lib.heap_setCell_same h _
theorem bF.lt(h:bF w b r g):b<w.heap.size:=(Array.getElem?_eq_some_iff.1 h).1
end
section
variable{w:World}{b:Nat}{r p:List UInt8}{g:Bool}
theorem WV(c:UInt8)(w:World):Calls Tryz.prog 157 #[.int .u8 (c.toNat:Int)] w fun e w'=>e= .returned (.bool (sD c))/\w'=w:=by
 by_cases h1:48<=c.toNat
 ·have d1:decide ((48:Int)<=(c.toNat:Int))=true:=decide_eq_true (by omega)
  have d2:decide ((c.toNat:Int)>=48)=true:=decide_eq_true (by omega);have d5:decide (48<=c.toNat)=true:=decide_eq_true h1;by_cases h2:c.toNat<=57
  ·have d3:decide ((c.toNat:Int)<=57)=true:=decide_eq_true (by omega)
   have d4:decide (c.toNat<=57)=true:=decide_eq_true h2;have HD:Hid (sD c=true):=by show _=_;simp[sD,h1,h2]
   go_enter Tryz.func157,Tryz.ntmps157
   go_wp2_with fail
   go_ret;exact⟨by rw[HD.out];rfl,rfl⟩
  ·have d3:decide ((c.toNat:Int)<=57)=false:=decide_eq_false (by omega)
   have d4:decide (c.toNat<=57)=false:=decide_eq_false h2;have HD:Hid (sD c=false):=by show _=_;simp[sD,h1,h2]
   go_enter Tryz.func157,Tryz.ntmps157
   go_wp2_with fail
   go_ret;exact⟨by rw[HD.out];rfl,rfl⟩
 ·have d1:decide ((48:Int)<=(c.toNat:Int))=false:=decide_eq_false (by omega)
  have d2:decide ((c.toNat:Int)>=48)=false:=decide_eq_false (by omega);have d5:decide (48<=c.toNat)=false:=decide_eq_false h1;have HD:Hid (sD c=false):=by show _=_;simp[sD,h1]
  go_enter Tryz.func157,Tryz.ntmps157
  go_wp2_with fail
  go_ret;exact⟨by rw[HD.out];rfl,rfl⟩
theorem WW(h:bF w b r g):Calls Tryz.prog 126 #[.pointer (some ⟨b,0,none⟩)] w fun e w'=>e= .returned (.bool (!g&& !r.isEmpty))/\w'=w:=by
 have c0:w.cell? ⟨b,0,none⟩=some (.string ⟨r.toArray⟩):=ai h rfl;have c1:w.cell? ⟨b,1,none⟩=some (.bool g):=ai h rfl;clear h;cases g with
 |true=>
  go_enter Tryz.func126,Tryz.ntmps126
  go_wp2_with fail
  go_ret;exact⟨rfl,rfl⟩
 |false=>
  cases r with
  |nil=>
   go_enter Tryz.func126,Tryz.ntmps126
   go_wp2_with fail
   go_ret;exact⟨rfl,rfl⟩
  |cons x l=>
   go_enter Tryz.func126,Tryz.ntmps126
   go_wp2_with fail
   go_ret;exact⟨rfl,rfl⟩
theorem WX(h:bF w b r g):Calls Tryz.prog 125 #[.pointer (some ⟨b,0,none⟩)] w fun e w'=>e= .returned (.bool (!g&&r.isEmpty))/\w'=w:=by
 have c0:w.cell? ⟨b,0,none⟩=some (.string ⟨r.toArray⟩):=ai h rfl;have c1:w.cell? ⟨b,1,none⟩=some (.bool g):=ai h rfl;clear h;cases g with
 |true=>
  go_enter Tryz.func125,Tryz.ntmps125
  go_wp2_with fail
  go_ret;exact⟨rfl,rfl⟩
 |false=>
  cases r with
  |nil=>
   go_enter Tryz.func125,Tryz.ntmps125
   go_wp2_with fail
   go_ret;exact⟨rfl,rfl⟩
  |cons x l=>
   go_enter Tryz.func125,Tryz.ntmps125
   go_wp2_with fail
   go_ret;exact⟨rfl,rfl⟩
theorem NS(h:bF w b r g)(p:List UInt8):Calls Tryz.prog 156 #[.pointer (some ⟨b,0,none⟩),.string ⟨p.toArray⟩] w fun e w'=>e= .returned (.bool (Lib.hasPrefix r p))/\bF w' b (Lib.trimPrefix r p) g/\But b w w':=by
 have c0:w.cell? ⟨b,0,none⟩=some (.string ⟨r.toArray⟩):=ai h rfl;have f0:w.frozen? ⟨b,0,none⟩=false:=bD h;have cp:=NQ ⟨r.toArray⟩ ⟨p.toArray⟩ w;have HS:Hid (bF w b r g):=h;obtain⟨t,ht⟩:∃x,Lib.trimPrefix r p=x:=⟨_,rfl⟩;obtain⟨k,hk⟩:∃x,Lib.hasPrefix r p=x:=⟨_,rfl⟩;simp only[ht,hk]at cp⊢;clear h ht hk
 go_enter Tryz.func156,Tryz.ntmps156
 go_wp2_with
  (go_at_call 10;refine cp.mono ?_;rintro e w2 ⟨rfl,h2⟩;obtain rfl:w=w2:=h2.symm;clear cp)
 go_ret;exact⟨rfl,HS.out.set0 _,But.set _ _ _⟩
theorem WY(h:bF w b r g)(p:List UInt8):Calls Tryz.prog 123 #[.pointer (some ⟨b,0,none⟩),.string ⟨p.toArray⟩] w fun e w'=>e= .returned (.tuple #[])/\bF w' b (Lib.trimPrefix r p) (g|| !Lib.hasPrefix r p)/\But b w w':=by
 have tk:=NS h p;clear h;cases hk:Lib.hasPrefix r p with
 |true=>
  rw[hk]at tk
  go_enter Tryz.func123,Tryz.ntmps123
  go_wp2_with
   (go_at_call 156;refine tk.mono ?_;rintro e w2 ⟨rfl,h2,h3⟩
    have H2:Hid (bF w2 b (Lib.trimPrefix r p) g/\But b w w2):=⟨h2,h3⟩
    clear tk h2 h3)
  go_end0
  refine⟨rfl,?_,H2.out.2⟩;simpa using H2.out.1
 |false=>
  rw[hk]at tk
  go_enter Tryz.func123,Tryz.ntmps123
  go_wp2_with
   (go_at_call 156;refine tk.mono ?_;rintro e w2 ⟨rfl,h2,h3⟩
    have H2:Hid (bF w2 b (Lib.trimPrefix r p) g/\But b w w2):=⟨h2,h3⟩;have f1:w2.frozen? ⟨b,1,none⟩=false:=bD h2;have c1:w2.cell? ⟨b,1,none⟩=some (.bool g):=ai h2 rfl
    clear tk h2 h3)
  go_end0
  refine⟨rfl,?_,H2.out.2.trans (But.set _ _ _)⟩;have:=H2.out.1.set1 true;simpa using this
end
end Go.Proofs.YtblkkhfdeaaidaaGreatDoor
