/-
  PROVED HERE: the library's contracts of slices.Sort, Equal, Contains, Index, IndexFunc and DeleteFunc at lists of numbers,; strings.Join with one blank between, strconv.Itoa of a number of at most seven digits; package run's those, faceWords, illWords; history.Print writes a list of ops that is right as its text.
  Conditions: none but those that each theorem's own premises say.
-/
import Derived.Shelf.Strings.OnBuilder
import Derived.Shelf.Small.Wraps
import Derived.Shelf.LaysM
import Derived.Shelf.Strconv.Itoa3
import Derived.Shelf.Sort.Plain
import Derived.Shelf.Slices.Turned
import Derived.Shelf.Slices.Equal
import Derived.Shelf.Slices.In.SortNone
import Derived.Shelf.Slices.Empties2
import Derived.Ground.SlgfProg
import Derived.Shelf.SlicesE.IndexFunc
import Derived.Shelf.SlicesE.DeleteFunc
import Derived.Test.YthlhgiihngcobaaGreatDoorProg
import Derived.Test.YthlhgiihngcobaaGreatDoorMgas
import Derived.Lib.AppendIntMem
import Derived.Test.YthlhgiihngcobaaGreatDoorMgak
import Derived.Test.YthlhgiihngcobaaGreatDoorMgah
import Derived.RangeFuncRecord
set_option maxHeartbeats 32000000
set_option maxRecDepth 100000
namespace Go.Proofs
open Go.Shelf
def Tryz.lays156_ren:Go.Shelf.Ren:=⟨fun | 156=>109 | 165=>177 | 166=>8 | 169=>11 | 240=>14 | 241=>217 | 276=>18 | 277=>245 | n=>n,fun | 31=>86 | 9=>9 | 3=>3 | 4=>4 | 0=>0 | 20=>20 | 72=>34 | 76=>40 | 70=>31 | 37=>32 | 75=>39 | 127=>52 | 164=>53 | 5=>5 | 80=>43 | n=>n,fun | n=>n⟩
theorem Tryz.lays156:Go.Proofs.Lays.n156 Tryz.prog Tryz.lays156_ren:={
 mixed:=by kernel_rfl
 f156:=Tryz.func109.trans (congrArg some (by kernel_rfl))
 f165:=Tryz.func177.trans (congrArg some (by kernel_rfl))
 f166:=Tryz.func8.trans (congrArg some (by kernel_rfl))
 f169:=Tryz.func11.trans (congrArg some (by kernel_rfl))
 f240:=Tryz.func14.trans (congrArg some (by kernel_rfl))
 f241:=Tryz.func217.trans (congrArg some (by kernel_rfl))
 f276:=Tryz.func18.trans (congrArg some (by kernel_rfl))
 f277:=Tryz.func245.trans (congrArg some (by kernel_rfl))
 t0:=Tryz.underlying0
 a0:=Tryz.isAgg0
 z0:=Tryz.sizeOf0
 v0:=Tryz.zeroValue0
 t3:=Tryz.underlying3
 a3:=Tryz.isAgg3
 z3:=Tryz.sizeOf3
 v3:=Tryz.zeroValue3
 t4:=Tryz.underlying4
 a4:=Tryz.isAgg4
 z4:=Tryz.sizeOf4
 v4:=Tryz.zeroValue4
 t9:=Tryz.underlying9
 a9:=Tryz.isAgg9
 z9:=Tryz.sizeOf9
 v9:=Tryz.zeroValue9
 t20:=Tryz.underlying20
 a20:=Tryz.isAgg20
 z20:=Tryz.sizeOf20
 v20:=Tryz.zeroValue20
 t31:=Tryz.underlying86
 a31:=Tryz.isAgg86
 z31:=Tryz.sizeOf86
 v31:=Tryz.zeroValue86
 t37:=Tryz.underlying32
 a37:=Tryz.isAgg32
 z37:=Tryz.sizeOf32
 v37:=Tryz.zeroValue32
 t70:=Tryz.underlying31
 a70:=Tryz.isAgg31
 z70:=Tryz.sizeOf31
 v70:=Tryz.zeroValue31
 t72:=Tryz.underlying34
 a72:=Tryz.isAgg34
 z72:=Tryz.sizeOf34
 v72:=Tryz.zeroValue34
 t75:=Tryz.underlying39
 a75:=Tryz.isAgg39
 z75:=Tryz.sizeOf39
 v75:=Tryz.zeroValue39
 t76:=Tryz.underlying40
 a76:=Tryz.isAgg40
 z76:=Tryz.sizeOf40
 v76:=Tryz.zeroValue40
 t127:=Tryz.underlying52
 a127:=Tryz.isAgg52
 z127:=Tryz.sizeOf52
 v127:=Tryz.zeroValue52
 t164:=Tryz.underlying53
 a164:=Tryz.isAgg53
 z164:=Tryz.sizeOf53
 v164:=Tryz.zeroValue53 }
theorem Tryz.Builder_Extra_156:Builder.Extra Tryz.prog Tryz.lays156_ren:={
 sizeBuilder:=by kernel_rfl
 liesBuilder:=by kernel_rfl
 t5:=Tryz.underlying5
 a5:=Tryz.isAgg5
 z5:=Tryz.sizeOf5
 v5:=Tryz.zeroValue5
 infoByte:=by kernel_rfl
 cellsByte:=by kernel_rfl
 sizeByte:=by kernel_rfl
 neB5:=by decide }
def Tryz.lays103_ren:Go.Shelf.Ren:=⟨fun | 103=>19 | 210=>40 | 206=>106 | n=>n,fun | 9=>9 | 4=>4 | 24=>55 | 3=>3 | n=>n,fun | n=>n⟩
theorem Tryz.lays103:Go.Proofs.Lays.n103 Tryz.prog Tryz.lays103_ren:={
 mixed:=by kernel_rfl
 f103:=Tryz.func19.trans (congrArg some (by kernel_rfl))
 f206:=Tryz.func106.trans (congrArg some (by kernel_rfl))
 f210:=Tryz.func40.trans (congrArg some (by kernel_rfl))
 t3:=Tryz.underlying3
 a3:=Tryz.isAgg3
 z3:=Tryz.sizeOf3
 v3:=Tryz.zeroValue3
 t4:=Tryz.underlying4
 a4:=Tryz.isAgg4
 z4:=Tryz.sizeOf4
 v4:=Tryz.zeroValue4
 t9:=Tryz.underlying9
 a9:=Tryz.isAgg9
 z9:=Tryz.sizeOf9
 v9:=Tryz.zeroValue9
 t24:=Tryz.underlying55
 a24:=Tryz.isAgg55
 z24:=Tryz.sizeOf55
 v24:=Tryz.zeroValue55 }
def Tryz.laysM171_ren:Go.Shelf.Ren:=⟨fun | 171=>42 | 243=>108 | 246=>176 | 283=>213 | 284=>214 | 285=>215 | 286=>216 | 129=>241 | 317=>240 | 318=>242 | 319=>243 | 320=>244 | 337=>267 | 338=>268 | n=>n,fun | 3=>3 | 9=>9 | 2=>2 | 4=>4 | 171=>287 | 0=>0 | 53=>288 | 37=>32 | 5=>5 | 173=>291 | 212=>305 | 51=>252 | 20=>20 | 213=>306 | 46=>187 | 232=>332 | 233=>333 | n=>n,fun | 17=>3 | 18=>4 | 19=>5 | n=>n⟩
theorem Tryz.laysM171:Go.Proofs.LaysM.n171 Tryz.prog Tryz.laysM171_ren:={
 mixed:=by kernel_rfl
 f129:=Tryz.func241.trans (congrArg some (by kernel_rfl))
 f171:=Tryz.func42.trans (congrArg some (by kernel_rfl))
 f243:=Tryz.func108.trans (congrArg some (by kernel_rfl))
 f246:=Tryz.func176.trans (congrArg some (by kernel_rfl))
 f283:=Tryz.func213.trans (congrArg some (by kernel_rfl))
 f284:=Tryz.func214.trans (congrArg some (by kernel_rfl))
 f285:=Tryz.func215.trans (congrArg some (by kernel_rfl))
 f286:=Tryz.func216.trans (congrArg some (by kernel_rfl))
 f317:=Tryz.func240.trans (congrArg some (by kernel_rfl))
 f318:=Tryz.func242.trans (congrArg some (by kernel_rfl))
 f319:=Tryz.func243.trans (congrArg some (by kernel_rfl))
 f320:=Tryz.func244.trans (congrArg some (by kernel_rfl))
 f337:=Tryz.func267.trans (congrArg some (by kernel_rfl))
 f338:=Tryz.func268.trans (congrArg some (by kernel_rfl))
 t0:=Tryz.underlying0
 a0:=Tryz.isAgg0
 z0:=Tryz.sizeOf0
 v0:=Tryz.zeroValue0
 t2:=Tryz.underlying2
 a2:=Tryz.isAgg2
 z2:=Tryz.sizeOf2
 v2:=Tryz.zeroValue2
 t3:=Tryz.underlying3
 a3:=Tryz.isAgg3
 z3:=Tryz.sizeOf3
 v3:=Tryz.zeroValue3
 t4:=Tryz.underlying4
 a4:=Tryz.isAgg4
 z4:=Tryz.sizeOf4
 v4:=Tryz.zeroValue4
 t5:=Tryz.underlying5
 a5:=Tryz.isAgg5
 z5:=Tryz.sizeOf5
 v5:=Tryz.zeroValue5
 t9:=Tryz.underlying9
 a9:=Tryz.isAgg9
 z9:=Tryz.sizeOf9
 v9:=Tryz.zeroValue9
 t20:=Tryz.underlying20
 a20:=Tryz.isAgg20
 z20:=Tryz.sizeOf20
 v20:=Tryz.zeroValue20
 t37:=Tryz.underlying32
 a37:=Tryz.isAgg32
 z37:=Tryz.sizeOf32
 v37:=Tryz.zeroValue32
 t46:=Tryz.underlying187
 a46:=Tryz.isAgg187
 z46:=Tryz.sizeOf187
 v46:=Tryz.zeroValue187
 t51:=Tryz.underlying252
 a51:=Tryz.isAgg252
 z51:=Tryz.sizeOf252
 v51:=Tryz.zeroValue252
 t53:=Tryz.underlying288
 a53:=Tryz.isAgg288
 z53:=Tryz.sizeOf288
 v53:=Tryz.zeroValue288
 t171:=Tryz.underlying287
 a171:=Tryz.isAgg287
 z171:=Tryz.sizeOf287
 v171:=Tryz.zeroValue287
 t173:=Tryz.underlying291
 a173:=Tryz.isAgg291
 z173:=Tryz.sizeOf291
 v173:=Tryz.zeroValue291
 t212:=Tryz.underlying305
 a212:=Tryz.isAgg305
 z212:=Tryz.sizeOf305
 v212:=Tryz.zeroValue305
 t213:=Tryz.underlying306
 a213:=Tryz.isAgg306
 z213:=Tryz.sizeOf306
 t232:=Tryz.underlying332
 a232:=Tryz.isAgg332
 z232:=Tryz.sizeOf332
 v232:=Tryz.zeroValue332
 t233:=Tryz.underlying333
 a233:=Tryz.isAgg333
 z233:=Tryz.sizeOf333
 v233:=Tryz.zeroValue333
 g17:=by kernel_rfl
 g18:=by kernel_rfl
 g19:=by kernel_rfl
 i0:=by kernel_rfl
 i2:=by kernel_rfl
 i3:=by kernel_rfl
 i4:=by kernel_rfl
 i5:=by kernel_rfl
 i9:=by kernel_rfl
 i20:=by kernel_rfl
 i37:=by kernel_rfl
 i46:=by kernel_rfl
 i51:=by kernel_rfl
 i53:=by kernel_rfl
 i171:=by kernel_rfl
 i173:=by kernel_rfl
 i212:=by kernel_rfl
 i232:=by kernel_rfl
 i233:=by kernel_rfl
 m17:=by kernel_rfl
 m18:=by kernel_rfl
 m19:=by kernel_rfl }
def Tryz.lays189_ren:Go.Shelf.Ren:=⟨fun | 189=>185 | 125=>219 | 257=>218 | 128=>255 | 129=>241 | 294=>246 | 295=>247 | 296=>248 | 297=>249 | 298=>250 | 299=>251 | 216=>252 | 300=>253 | 301=>254 | 328=>269 | 329=>270 | 330=>271 | 331=>272 | 332=>273 | 215=>274 | 343=>280 | n=>n,fun | 28=>24 | 3=>3 | 46=>187 | 0=>0 | 51=>252 | 53=>288 | 4=>4 | 183=>310 | 182=>309 | 131=>220 | 5=>5 | 9=>9 | 218=>322 | 222=>326 | 228=>334 | 229=>335 | n=>n,fun | n=>n⟩
theorem Tryz.lays189:Go.Proofs.Lays.n189 Tryz.prog Tryz.lays189_ren:={
 mixed:=by kernel_rfl
 f125:=Tryz.func219.trans (congrArg some (by kernel_rfl))
 f128:=Tryz.func255.trans (congrArg some (by kernel_rfl))
 f129:=Tryz.func241.trans (congrArg some (by kernel_rfl))
 f189:=Tryz.func185.trans (congrArg some (by kernel_rfl))
 f215:=Tryz.func274.trans (congrArg some (by kernel_rfl))
 f216:=Tryz.func252.trans (congrArg some (by kernel_rfl))
 f257:=Tryz.func218.trans (congrArg some (by kernel_rfl))
 f294:=Tryz.func246.trans (congrArg some (by kernel_rfl))
 f295:=Tryz.func247.trans (congrArg some (by kernel_rfl))
 f296:=Tryz.func248.trans (congrArg some (by kernel_rfl))
 f297:=Tryz.func249.trans (congrArg some (by kernel_rfl))
 f298:=Tryz.func250.trans (congrArg some (by kernel_rfl))
 f299:=Tryz.func251.trans (congrArg some (by kernel_rfl))
 f300:=Tryz.func253.trans (congrArg some (by kernel_rfl))
 f301:=Tryz.func254.trans (congrArg some (by kernel_rfl))
 f328:=Tryz.func269.trans (congrArg some (by kernel_rfl))
 f329:=Tryz.func270.trans (congrArg some (by kernel_rfl))
 f330:=Tryz.func271.trans (congrArg some (by kernel_rfl))
 f331:=Tryz.func272.trans (congrArg some (by kernel_rfl))
 f332:=Tryz.func273.trans (congrArg some (by kernel_rfl))
 f343:=Tryz.func280.trans (congrArg some (by kernel_rfl))
 t0:=Tryz.underlying0
 a0:=Tryz.isAgg0
 z0:=Tryz.sizeOf0
 v0:=Tryz.zeroValue0
 t3:=Tryz.underlying3
 a3:=Tryz.isAgg3
 z3:=Tryz.sizeOf3
 v3:=Tryz.zeroValue3
 t4:=Tryz.underlying4
 a4:=Tryz.isAgg4
 z4:=Tryz.sizeOf4
 v4:=Tryz.zeroValue4
 t5:=Tryz.underlying5
 a5:=Tryz.isAgg5
 z5:=Tryz.sizeOf5
 v5:=Tryz.zeroValue5
 t9:=Tryz.underlying9
 a9:=Tryz.isAgg9
 z9:=Tryz.sizeOf9
 v9:=Tryz.zeroValue9
 t28:=Tryz.underlying24
 a28:=Tryz.isAgg24
 z28:=Tryz.sizeOf24
 v28:=Tryz.zeroValue24
 t46:=Tryz.underlying187
 a46:=Tryz.isAgg187
 z46:=Tryz.sizeOf187
 v46:=Tryz.zeroValue187
 t51:=Tryz.underlying252
 a51:=Tryz.isAgg252
 z51:=Tryz.sizeOf252
 v51:=Tryz.zeroValue252
 t53:=Tryz.underlying288
 a53:=Tryz.isAgg288
 z53:=Tryz.sizeOf288
 v53:=Tryz.zeroValue288
 t131:=Tryz.underlying220
 a131:=Tryz.isAgg220
 z131:=Tryz.sizeOf220
 v131:=Tryz.zeroValue220
 t182:=Tryz.underlying309
 a182:=Tryz.isAgg309
 z182:=Tryz.sizeOf309
 v182:=Tryz.zeroValue309
 t183:=Tryz.underlying310
 a183:=Tryz.isAgg310
 z183:=Tryz.sizeOf310
 v183:=Tryz.zeroValue310
 t218:=Tryz.underlying322
 a218:=Tryz.isAgg322
 z218:=Tryz.sizeOf322
 v218:=Tryz.zeroValue322
 t222:=Tryz.underlying326
 a222:=Tryz.isAgg326
 z222:=Tryz.sizeOf326
 v222:=Tryz.zeroValue326
 t228:=Tryz.underlying334
 a228:=Tryz.isAgg334
 z228:=Tryz.sizeOf334
 v228:=Tryz.zeroValue334
 t229:=Tryz.underlying335
 a229:=Tryz.isAgg335
 z229:=Tryz.sizeOf335
 v229:=Tryz.zeroValue335 }
def Tryz.lays107_ren:Go.Shelf.Ren:=⟨fun | 107=>48 | 108=>116 | n=>n,fun | 28=>24 | 3=>3 | 4=>4 | 0=>0 | n=>n,fun | n=>n⟩
theorem Tryz.lays107:Go.Proofs.Lays.n107 Tryz.prog Tryz.lays107_ren:={
 mixed:=by kernel_rfl
 f107:=Tryz.func48.trans (congrArg some (by kernel_rfl))
 f108:=Tryz.func116.trans (congrArg some (by kernel_rfl))
 t0:=Tryz.underlying0
 a0:=Tryz.isAgg0
 z0:=Tryz.sizeOf0
 v0:=Tryz.zeroValue0
 t3:=Tryz.underlying3
 a3:=Tryz.isAgg3
 z3:=Tryz.sizeOf3
 v3:=Tryz.zeroValue3
 t4:=Tryz.underlying4
 a4:=Tryz.isAgg4
 z4:=Tryz.sizeOf4
 v4:=Tryz.zeroValue4
 t28:=Tryz.underlying24
 a28:=Tryz.isAgg24
 z28:=Tryz.sizeOf24
 v28:=Tryz.zeroValue24 }
def Tryz.lays111_ren:Go.Shelf.Ren:=⟨fun | 111=>186 | n=>n,fun | 28=>24 | 3=>3 | 4=>4 | 0=>0 | n=>n,fun | n=>n⟩
theorem Tryz.lays111:Go.Proofs.Lays.n111 Tryz.prog Tryz.lays111_ren:={
 mixed:=by kernel_rfl
 f111:=Tryz.func186.trans (congrArg some (by kernel_rfl))
 t0:=Tryz.underlying0
 a0:=Tryz.isAgg0
 z0:=Tryz.sizeOf0
 v0:=Tryz.zeroValue0
 t3:=Tryz.underlying3
 a3:=Tryz.isAgg3
 z3:=Tryz.sizeOf3
 v3:=Tryz.zeroValue3
 t4:=Tryz.underlying4
 a4:=Tryz.isAgg4
 z4:=Tryz.sizeOf4
 v4:=Tryz.zeroValue4
 t28:=Tryz.underlying24
 a28:=Tryz.isAgg24
 z28:=Tryz.sizeOf24
 v28:=Tryz.zeroValue24 }
def Tryz.laysSlH6_f117_ren:Go.Shelf.Ren:=⟨fun | 6=>117 | n=>n,fun | 22=>24 | 23=>3 | 25=>94 | 3=>3 | 0=>0 | 4=>4 | n=>n,fun | n=>n⟩
theorem Tryz.laysSlH6_f117:Go.Proofs.SlLaysH.n6 Tryz.prog Tryz.laysSlH6_f117_ren:={
 mixed:=by kernel_rfl
 f6:=⟨Tryz.f117.name,by decide,Tryz.func117.trans (congrArg some (by kernel_rfl))⟩
 t0:=Tryz.underlying0
 a0:=Tryz.isAgg0
 z0:=Tryz.sizeOf0
 v0:=Tryz.zeroValue0
 t3:=Tryz.underlying3
 a3:=Tryz.isAgg3
 z3:=Tryz.sizeOf3
 v3:=Tryz.zeroValue3
 t4:=Tryz.underlying4
 a4:=Tryz.isAgg4
 z4:=Tryz.sizeOf4
 v4:=Tryz.zeroValue4
 t22:=Tryz.underlying24
 a22:=Tryz.isAgg24
 z22:=Tryz.sizeOf24
 v22:=Tryz.zeroValue24
 a23:=Tryz.isAgg3
 z23:=Tryz.sizeOf3
 t25:=Tryz.underlying94
 a25:=Tryz.isAgg94
 z25:=Tryz.sizeOf94
 v25:=Tryz.zeroValue94 }
def Tryz.laysSlH10_f50_ren:Go.Shelf.Ren:=⟨fun | 10=>50 | 6=>117 | n=>n,fun | 22=>24 | 23=>3 | 25=>94 | 3=>3 | 4=>4 | 0=>0 | n=>n,fun | n=>n⟩
theorem Tryz.laysSlH10_f50:Go.Proofs.SlLaysH.n10 Tryz.prog Tryz.laysSlH10_f50_ren:={
 mixed:=by kernel_rfl
 f6:=⟨Tryz.f117.name,by decide,Tryz.func117.trans (congrArg some (by kernel_rfl))⟩
 f10:=⟨Tryz.f50.name,by decide,Tryz.func50.trans (congrArg some (by kernel_rfl))⟩
 t0:=Tryz.underlying0
 a0:=Tryz.isAgg0
 z0:=Tryz.sizeOf0
 v0:=Tryz.zeroValue0
 t3:=Tryz.underlying3
 a3:=Tryz.isAgg3
 z3:=Tryz.sizeOf3
 v3:=Tryz.zeroValue3
 t4:=Tryz.underlying4
 a4:=Tryz.isAgg4
 z4:=Tryz.sizeOf4
 v4:=Tryz.zeroValue4
 t22:=Tryz.underlying24
 a22:=Tryz.isAgg24
 z22:=Tryz.sizeOf24
 v22:=Tryz.zeroValue24
 a23:=Tryz.isAgg3
 z23:=Tryz.sizeOf3
 t25:=Tryz.underlying94
 a25:=Tryz.isAgg94
 z25:=Tryz.sizeOf94
 v25:=Tryz.zeroValue94 }
end Go.Proofs
namespace Go.Proofs.YthlhgiihngcobaaGreatDoor
open Go.RowKit
theorem zs3:zl1:=fun bk o c xs w hc hb hn hcap hl=>by
 have e:(xs.map fun x=>(⟨x.toArray⟩:ByteArray)).map (·.data.toList)=xs:=by rw[List.map_map];simp[Function.comp_def]
 have h:=Any.strings_Join Tryz.lays156 Tryz.Builder_Extra_156 bk o c (xs.map fun x=>⟨x.toArray⟩) ⟨#[32]⟩ w (fun j x hx=>by obtain⟨y,hy,rfl⟩:=Option.map_eq_some_iff.1 ((List.getElem?_map ..).symm.trans hx);exact hc j y hy) hb (by rw[List.length_map];omega) (by rw[List.length_map];omega) (by rw[e];exact Nat.le_trans hl (by decide));rw[e,List.length_map]at h;exact h
theorem zz6:zAx:=fun n w h0 h1 hp =>(Any.strconv_Itoa Tryz.laysM171 n (by omega) (by omega) w hp).mono fun e w' ⟨he,k,os,hw⟩=>⟨he,by rw[hw];exact Lib.below_grow _ w (Nat.le_refl _) k os⟩
end Go.Proofs.YthlhgiihngcobaaGreatDoor
namespace Go.Proofs.YthlhgiihngcobaaGreatDoor
open Go.RowKit
theorem zxN(hJ:zl1)(ws:List (List UInt8 × Bool))(b cap:Nat)(w:World)(hl:ws.length<=10)(hw:∀x∈ws,x.1.length<=20)(hb:b<w.heap.size)
  (hc:∀k,k<ws.length->w.cell? ⟨b,k*2,none⟩=some (za2 (ws.getD k ([],false)).1)/\w.cell? ⟨b,k*2+1,none⟩=some (.bool (ws.getD k ([],false)).2)) :
  Calls Tryz.prog 59 #[.slice (some ⟨b,0,none⟩) ws.length cap] w fun e w'=>e=.returned (za2 (zg0 ((ws.filter fun x=>x.2).map fun x=>x.1)))/\Below w.heap.size w w':=by
 obtain⟨N,hN⟩:∃n,ws.length=n:=⟨_,rfl⟩;obtain⟨F,hF⟩:∃F:Nat->List (List UInt8),F=fun k=>((ws.take k).filter fun x=>x.2).map fun x=>x.1:=⟨_,rfl⟩;have HF:Hid (F N=((ws.filter fun x=>x.2).map fun x=>x.1)):=by show F N=_;simp only[hF];rw[List.take_of_length_le (by omega)]
 have HL:Hid (∀k,k<=N->(F k).length<=k/\∀x∈F k,x.length<=20):=fun k hk=>by
  simp only[hF];refine⟨?_,fun x hx=>?_⟩
  ·rw[List.length_map];exact Nat.le_trans (List.length_filter_le _ _) (List.length_take_le _ _)
  ·obtain⟨y,hy,rfl⟩:=List.mem_map.1 hx;exact hw y (List.mem_of_mem_take (List.mem_filter.1 hy).1)
 have HS:Hid (∀k,k<N->F (k+1)=F k++(if(ws.getD k ([],false)).2=true then[(ws.getD k ([],false)).1]else[])):=fun k hk=>by
  rw[hF];show((ws.take (k+1)).filter _).map _=((ws.take k).filter _).map _++_;have hk':k<ws.length:=by omega
  have hg:ws.getD k ([],false)=ws[k]:=by simp[List.getD,List.getElem?_eq_getElem hk']
  rw[hg,List.take_succ_eq_append_getElem hk',List.filter_append,List.map_append];congr 1;cases hx:ws[k].2 <;> simp[hx]
 have HC:Hid (∀W,Below w.heap.size w W->∀k,k<N->W.cell? ⟨b,k*2,none⟩=some (za2 (ws.getD k ([],false)).1)/\W.cell? ⟨b,k*2+1,none⟩=some (.bool (ws.getD k ([],false)).2)):=fun W hW k hk=>by have h:=hc k (by omega);exact⟨(hW.cell (p:=⟨b,k*2,none⟩) hb).trans h.1,(hW.cell (p:=⟨b,k*2+1,none⟩) hb).trans h.2⟩
 have F0:F 0=[]:=by rw[hF];rfl
 have HJ:=zau hJ;obtain⟨i0,hi,hz0,hz1,hz2⟩:=info_parts zuv;have HI:Hid (Tryz.prog.info? 9=some i0/\i0.zero=some (.string ⟨#[]⟩)/\i0.size=1/\i0.bytes=16):=⟨hi,hz0,hz1,hz2⟩;rw[hN]at hl ⊢;have HFN:=zau F0;clear hi hz0 hz1 hz2 hJ hc hw hN hF F0 hb;go_enter Tryz.func59,Tryz.ntmps59;go_wp2_with fail
 go_loopw [3,8] (fun v3 v8 wr=>∃k:Nat,k<=N/\v8=.int .i64 k/\wr.ownsRow w.heap.size 9 1 v3 (F k).length ((F k).map za2)/\Below w.heap.size w wr) (fun _ v8 _=>N-(intOf v8).toNat)
 case atStart=>exact⟨0,Nat.zero_le _,rfl,by rw[HFN.out];exact World.ownsRow_nil _ _ _ _,Below.refl _ _⟩
 case round =>
  obtain⟨k,hk,rfl,hown,hbel⟩:=hrel;obtain⟨m,hm⟩:∃m,(F k).length=m:=⟨_,rfl⟩;have hmk:m<=k:=by have:=(HL.out k hk).1;omega
  rw[hm]at hown;have HM:=zau hm;clear hm;obtain⟨ad3,cap3,rfl⟩:=zdR hown;have HOW:=zau hown;have HB:=zau hbel;have hsz:=hbel.size;by_cases hlt:k<N
  ·have hlt':(k:Int)<(N:Int):=by omega
   obtain⟨c0,c1⟩:=HC.out wr hbel k hlt;have HT:=zau (HS.out k hlt);obtain⟨⟨t,so⟩,hd⟩:∃d,ws.getD k ([],false)=d:=⟨_,rfl⟩;rw[hd]at c0 c1 HT;simp only at c0 c1;have HBA:Hid (Below w.heap.size w (wr.alloc (.cells #[za2 t,.bool so] 117))):=hbel.alloc hsz _;have HOA:=zau (hown.alloc (.cells #[za2 t,.bool so] 117));clear hd hown hbel;cases so with
   | false =>
     go_wp2_with fail;go_roundw
     case rel=>exact⟨k+1,by omega,by go_num,by rw[HT.out];simp only[Bool.false_eq_true,if_false,List.append_nil];rw[HM.out];exact HOA.out,HBA.out⟩
     case measure=>simp[intOf];omega
   | true =>
     go_wp2_with (at_builtin;refine wpList_append_own _ rfl (.tmp 14) (.tmp 17) 86 rfl w.heap.size 9 i0 (.string ⟨#[]⟩) 1 16 Tryz.underlying86 HI.out.1 HI.out.2.1 HI.out.2.2.1 HI.out.2.2.2 rfl (by decide) (.slice ad3 m cap3) m ((F k).map za2) rfl (HOA.out.alloc _) ⟨wr.heap.size+1,0,none⟩ 1 1 [za2 t] rfl rfl (by have:=cell_one_new (wr.alloc (.cells #[za2 t,.bool true] 117)) (za2 t) 9;simpa using this) (by simp[Value.oneCell']) (by unfold maxLen;omega) (by omega) (by simp;omega) ?_;intro v2 w2 hown2 hgr2 hnil2;obtain⟨g2,cap2,rfl⟩:=ownsRow_succ hown2);have HB2:Below w.heap.size w w2:=(HBA.out.alloc (by simp;omega) _).grown hgr2 (by simp;omega) (fun m hm=>(HOA.out.lt m hm).1);go_roundw
     case rel=>exact⟨k+1,by omega,by go_num,by rw[HT.out];simp only[if_true,List.length_append,List.map_append,HM.out];exact hown2,HB2⟩
     case measure=>simp[intOf];omega
  ·have hlt':¬(k:Int)<(N:Int):=by omega
   obtain rfl:k=N:=by omega
   have HCJ:=zau (zlf HJ.out w.heap.size m (F k) _ wr HM.out hown (by omega) (by have h1:=zpr 20 (F k) (HL.out k hk).2;have h2:=(HL.out k hk).1;omega));clear hown hbel;go_wp2_with (go_at_call 43;refine HCJ.out.mono ?_;rintro e w1 ⟨rfl,hb1⟩);go_ret;exact⟨by rw[<-HF.out];rfl,HB.out.trans (hb1.mono hsz)⟩
end Go.Proofs.YthlhgiihngcobaaGreatDoor
namespace Go.Proofs.YthlhgiihngcobaaGreatDoor
open Go.RowKit
set_option linter.unusedSimpArgs false
theorem zcL{T e B b B1:Nat}{bs:List Value}{w w1:World}(h:Lib.IsBuilder T e B b bs w)(hb:Below B1 w w1)(hB:w.heap.size<=B1):Lib.IsBuilder T e B b bs w1:=by
 have one:∀p,Lib.BuilderAt T e B b p bs w->Lib.BuilderAt T e B b p bs w1:=by rintro p ⟨h1,v,hbk,hown,hne⟩;exact⟨h1,v,(hb.block b (by have:=zbz hbk;omega)).trans hbk,zaG hown hb hB,hne⟩
 rcases h with h | h
 ·exact .inl (one _ h)
 ·exact .inr (one _ h)
theorem zfl(l:List UInt8):Lib.strCells ⟨l.toArray⟩=Lib.byteCells l:=rfl
theorem zaW(l m:List UInt8):Lib.byteCells (l++m)=Lib.byteCells l++Lib.byteCells m:=by simp[Lib.byteCells]
theorem zzU{l:List Op3}(h:l≠[]):zkL l≠[]:=by
 cases l with
 | nil=>exact absurd rfl h
 | cons a r=>intro e;have:=(zfs a).2;simp[zkL]at e;rw[e.1]at this;simp at this
theorem zs7(l:List Op3)(v:Value)(w:World)(h:zai w v l)(hc:(chk l).2≠0):Calls Tryz.prog 80 #[v] w fun e w'=>e=.returned (.tuple #[.string ⟨#[]⟩,.iface 80 (.int .i64 (chk l).2)])/\Below w.heap.size w w':=by go_enter Tryz.func80,Tryz.ntmps80;go_wp2_with (go_at_call 81;refine(check_bad l v _ h hc).mono ?_;rintro e w1 ⟨rfl,hb1⟩);go_ret2;exact⟨rfl,hb1⟩
theorem zwN(l:List Op3)(v:Value)(w:World)(h:zai w v l)(hc:(chk l).2=0):Calls Tryz.prog 80 #[v] w fun e w'=>e=.returned (.tuple #[.string ⟨(zkL l).toArray⟩,.nilIface])/\Below w.heap.size w w':=by
 have hl40:=zaQ hc;have HV:Hid (∀o∈l,isOpB o=true):=chk_ops hc;have hI:=h;obtain⟨ad,b,off,cap,rfl,ha,hn,hbB,hops⟩:=h;go_enter Tryz.func80,Tryz.ntmps80;go_wp2_with (go_at_call 81;refine(check_ok l _ _ hI hc).mono ?_;rintro e w1 ⟨rfl,hb1⟩);have hs1:=hb1.size;clear hc hI
 go_loopw [19] (fun v19 wr=>∃k:Nat,k<=l.length/\v19=.int .i64 k/\Lib.IsBuilder 34 5 w1.heap.size w1.heap.size (Lib.byteCells (zkL (l.take k))) wr/\(k=0->wr.heap[w1.heap.size]? = some (.cells #[.pointer none,.slice none 0 0] 34 (0,0)))/\Below w1.heap.size w1 wr/\w1.heap.size<wr.heap.size) (fun v19 _=>l.length-(intOf v19).toNat)
 case atStart =>have hfr:(w1.alloc (.cells #[.pointer none,.slice none 0 0] 34)).heap[w1.heap.size]? = some (.cells #[.pointer none,.slice none 0 0] 34 (0,0)):=World.alloc_heap_new w1 _;exact⟨0,Nat.zero_le _,rfl,.inl ⟨Nat.le_refl _,_,hfr,World.ownsRow_nil _ _ _ _,by simp[Value.ownBlock]⟩,fun _=>hfr,(Below.refl _ _).alloc (Nat.le_refl _) _,by simp⟩
 case round =>
  obtain⟨k,hk,rfl,hbd,hfr,hbel,hsz⟩:=hrel;by_cases hlt:k<l.length
  ·obtain rfl:=ha (by omega);obtain⟨c0,c1,c2⟩:=hops k hlt
   have hb0:b<w.heap.size:=by
    rcases hbB with h | h
    ·exact h
    ·subst h;simp at hlt
   rw[<-hb1.cell (p:=⟨b,off+k*3,none⟩) hb0,<-hbel.cell (p:=⟨b,off+k*3,none⟩) (by simp;omega)]at c0;rw[<-hb1.cell (p:=⟨b,off+k*3+1,none⟩) hb0,<-hbel.cell (p:=⟨b,off+k*3+1,none⟩) (by simp;omega)]at c1;rw[<-hb1.cell (p:=⟨b,off+k*3+2,none⟩) hb0,<-hbel.cell (p:=⟨b,off+k*3+2,none⟩) (by simp;omega)]at c2;obtain⟨⟨t,a,i⟩,ho⟩:∃o:Op3,l.getD k (0,0,0)=o:=⟨_,rfl⟩;rw[ho]at c0 c1 c2;have HO:Hid (isOpB (t,a,i)=true):=HV.out (t,a,i) (by rw[<-ho];simp[List.getD,List.getElem?_eq_getElem hlt]);have HT:Hid (l.take (k+1)=l.take k++[(t,a,i)]):=by show l.take (k+1)=l.take k++[(t,a,i)];rw[List.take_succ_eq_append_getElem hlt,<-ho];simp[List.getD,List.getElem?_eq_getElem hlt]
   have hlt1:=zo1 (l.take k);have hlt2:(l.take k).length<=k:=List.length_take_le _ _;have hlo:=zfs (t,a,i);have hbd1:=zcL hbd ((Below.refl wr.heap.size wr).alloc (Nat.le_refl _) (.cells #[.int .i64 t,.int .i64 a,.int .i64 i] 103)) (Nat.le_refl _);have hB1:=hbel.alloc (by omega) (.cells #[.int .i64 t,.int .i64 a,.int .i64 i] 103);clear ho hops ha hbB hn;simp only at c0 c1 c2;by_cases h0:k=0
   ·have HK0:Hid (k=0):=h0;have hk0:k<1:=by omega
    have HBD:Hid (Lib.IsBuilder 34 5 w1.heap.size w1.heap.size (Lib.byteCells []) (wr.alloc (.cells #[.int .i64 t,.int .i64 a,.int .i64 i] 103))):=by show Lib.IsBuilder _ _ _ _ _ _;rw[h0]at hbd1;exact hbd1
    clear hbd hbd1 hfr h0;go_wp2_with (first | (go_at_call 138;refine(printOp_any (t,a,i) _ HO.out).mono ?_;rintro e w3 ⟨rfl,hb3⟩;have hbd3:=zcL HBD.out hb3 (Nat.le_refl _);have hs3:=hb3.size;try simp at hs3) | (go_at_call 8;refine(zek w1.heap.size w1.heap.size _ _ _ hbd3 (by simp only[Lib.byteCells_length,List.length_append,List.length_cons,List.length_nil,zaW,show(⟨(zfz (t,a,i)).toArray⟩:ByteArray).size=(zfz (t,a,i)).length from rfl];omega) (by omega)).mono ?_;rintro e w4 ⟨rfl,hbd4,hb4⟩));go_roundw
    case rel=>exact⟨k+1,by omega,by go_num,.inr (by rw[HT.out,HK0.out];simpa[zkL,zaW,zfl,Lib.byteCells]using hbd4),fun h=>absurd h (by omega),(hB1.trans (hb3.mono (by simp;omega))).trans hb4,by have:=hb4.size;omega⟩
    case measure=>simp[intOf];omega
   ·have hpos:0<k:=by omega
    have HNE:Hid (l.take k≠[]):=by
     show l.take k≠[];intro e;have:=congrArg List.length e;simp at this;rcases this with h | h
     ·exact h0 h
     ·subst h;simp at hlt
    have h0':((k:Int) == 0)=false:=by simpa using h0
    clear hfr hbd h0;go_wp2_with (first | (go_at_call 10;refine(zkk w1.heap.size w1.heap.size _ 32 _ hbd1 (by rw[Lib.byteCells_length];omega) (by simp;omega)).mono ?_;rintro e w2 ⟨rfl,hbd2,hb2,hk2⟩;have hop2:=hk2 wr.heap.size _ _ _ (by decide) (by decide) (World.alloc_heap_new wr (.cells #[.int .i64 t,.int .i64 a,.int .i64 i] 103));clear hk2;have HBD:Hid (Lib.IsBuilder 34 5 w1.heap.size w1.heap.size (Lib.byteCells (zkL (l.take k)++[32])) w2):=.inr (by rw[zaW];exact hbd2);have d0:w2.cell? ⟨wr.heap.size,0,none⟩=some (.int .i64 t):=(Lib.cell_of_heap hop2 0).trans rfl;have d1:w2.cell? ⟨wr.heap.size,1,none⟩=some (.int .i64 a):=(Lib.cell_of_heap hop2 1).trans rfl;have d2:w2.cell? ⟨wr.heap.size,2,none⟩=some (.int .i64 i):=(Lib.cell_of_heap hop2 2).trans rfl;clear hop2 hbd2;have hs2:=hb2.size;simp at hs2) | (go_at_call 138;refine(printOp_any (t,a,i) _ HO.out).mono ?_;rintro e w3 ⟨rfl,hb3⟩;have hbd3:=zcL HBD.out hb3 (Nat.le_refl _);have hs3:=hb3.size;try simp at hs3) | (go_at_call 8;refine(zek w1.heap.size w1.heap.size _ _ _ hbd3 (by simp only[Lib.byteCells_length,List.length_append,List.length_cons,List.length_nil,zaW,show(⟨(zfz (t,a,i)).toArray⟩:ByteArray).size=(zfz (t,a,i)).length from rfl];omega) (by omega)).mono ?_;rintro e w4 ⟨rfl,hbd4,hb4⟩));go_roundw
    case rel=>exact⟨k+1,by omega,by go_num,.inr (by rw[HT.out,zu3 _ _ HNE.out];simpa[zaW,zfl,Lib.byteCells]using hbd4),fun h=>absurd h (by omega),((hB1.trans hb2).trans (hb3.mono (by omega))).trans hb4,by have:=hb4.size;omega⟩
    case measure=>simp[intOf];omega
  ·have hB:Below w.heap.size w wr:=hb1.trans (hbel.mono hs1);rw[List.take_of_length_le (by omega)]at hbd;by_cases h0:l=[]
   ·subst h0;have hfr0:=hfr (by simpa using hk);have HFR:Hid (wr.heap[w1.heap.size]? = some (.cells #[.pointer none,.slice none 0 0] 34 (0,0))):=hfr0;clear hfr hfr0 hbd;go_wp2_with (go_at_call 11;refine(zqI w.heap.size w1.heap.size _ _ HFR.out).mono ?_;rintro e w2 ⟨rfl,hb2⟩);go_ret2;exact⟨rfl,hB.trans hb2⟩
   ·have HNE:Hid (zkL l≠[]):=zzU h0;clear hfr h0;go_wp2_with (go_at_call 11;refine(zni w1.heap.size w1.heap.size (zkL l) _ hbd HNE.out).mono ?_;rintro e w2 ⟨rfl,hb2⟩);go_ret2;exact⟨rfl,hB.trans (hb2.mono hs1)⟩
end Go.Proofs.YthlhgiihngcobaaGreatDoor
