package tests

import (
	"strings"
	"testing"

	"loop.example/g01318/impl"
)

func TestLimitsOfChapter8(t *testing.T) {
	if impl.MaxScript != 16000 {
		t.Error("the limit of chapter 8 is not as told")
	}
}

// mapRow is a map with its text.
type mapRow struct {
	m    impl.Map
	text string
}

func mapRows() []mapRow {
	return []mapRow{
		{impl.Map{}, "0:0000000000000000"},
		{square(-1), "0:bf80000000000000"},
		{impl.Map{Kind: impl.MapCube, C: 1 + 2i}, "1:3f80000040000000"},
		{impl.Map{Kind: impl.MapBurn, C: complex(minusZero, leastNumber)}, "2:8000000000000001"},
		{impl.Map{Kind: impl.MapMirror, C: complex(1000, -1000)}, "3:447a0000c47a0000"},
		{impl.Map{Kind: impl.MapMirror, C: complex(number(0x3eaaaaab), minusZero)}, "3:3eaaaaab80000000"},
	}
}

func wantNoMap(t *testing.T, what string, got impl.Map, ok bool) {
	t.Helper()
	wantNone(t, what+": Kind", got.Kind, ok)
	wantNone(t, what+": C", got.C, ok)
}

func TestMapText(t *testing.T) {
	for _, r := range mapRows() {
		got, ok := impl.MapText(r.m)
		wantText(t, "MapText", got, ok, r.text)
		back, ok := impl.ReadMap(r.text)
		wantBool(t, "whether ReadMap takes "+r.text, ok, true)
		wantBool(t, "whether ReadMap tells "+r.text, back.Kind == r.m.Kind && sameParts(back.C, r.m.C), true)
	}
	for _, m := range wrongMaps() {
		got, ok := impl.MapText(m)
		wantNone(t, "MapText of a wrong map", got, ok)
	}
}

func TestReadMapFails(t *testing.T) {
	for _, text := range append(strange(),
		"0", "0:", ":", ":0000000000000000", "::0000000000000000", "0000000000000000", "0 0000000000000000", "0;0000000000000000",
		"4:0000000000000000", "-1:0000000000000000", "-0:0000000000000000", "00:0000000000000000", "01:0000000000000000", "+1:0000000000000000", "none:0000000000000000",
		" 0:0000000000000000", "0 :0000000000000000", "0: 0000000000000000", "0:0000000000000000 ", "0:0000000000000000\n", "0:0000000000000000:", "0:0000000000000000:0000000000000000",
		"0:none", "0:00000000", "0:000000000000000", "0:00000000000000000", "0:0000000000000000,0000000000000000", "0:0000000000000000,", "0:,0000000000000000",
		"0:3F80000000000000", "0:3f8000000000000g", "0:7fc0000000000000", "0:000000007fc00000", "0:7fc0000100000000", "0:7f80000000000000", "0:ff80000000000000", "0:447a000100000000", "0:00000000c47a0001",
	) {
		got, ok := impl.ReadMap(text)
		wantNoMap(t, "ReadMap of "+text, got, ok)
	}
	for _, c := range largeOnes() {
		text, _ := impl.ComplexText([]complex64{c})
		got, ok := impl.ReadMap("1:" + text)
		wantNoMap(t, "ReadMap of a large C", got, ok)
	}
}

// viewRow is a view with its text.
type viewRow struct {
	v    impl.View
	text string
}

func viewRows() []viewRow {
	return []viewRow{
		{impl.View{Wide: 4, Columns: 4, Rows: 4}, "0000000000000000;40800000;4,4"},
		{aView, "bf0000003dcccccd;40400000;7,5"},
		{impl.View{Middle: complex(minusZero, leastNumber), Wide: leastNumber, Columns: 1, Rows: 16}, "8000000000000001;00000001;1,16"},
		{impl.View{Middle: complex(-1000, 1000), Wide: 1000, Columns: 16, Rows: 1}, "c47a0000447a0000;447a0000;16,1"},
	}
}

func wantNoView(t *testing.T, what string, got impl.View, ok bool) {
	t.Helper()
	wantNone(t, what, got, ok)
}

func TestViewText(t *testing.T) {
	for _, r := range viewRows() {
		got, ok := impl.ViewText(r.v)
		wantText(t, "ViewText", got, ok, r.text)
	}
	for _, v := range validViews() {
		text, ok := impl.ViewText(v)
		wantBool(t, "whether ViewText succeeds", ok, true)
		back, ok := impl.ReadView(text)
		wantBool(t, "whether ReadView takes "+text, ok, true)
		isTold := sameParts(back.Middle, v.Middle) && sameBits(back.Wide, v.Wide) && back.Columns == v.Columns && back.Rows == v.Rows
		wantBool(t, "whether ReadView tells "+text, isTold, true)
	}
	for _, v := range wrongViews() {
		got, ok := impl.ViewText(v)
		wantNone(t, "ViewText of a wrong view", got, ok)
	}
}

func TestReadViewFails(t *testing.T) {
	for _, text := range append(strange(),
		";", ";;", ";;;", "0000000000000000", "0000000000000000;40800000", "0000000000000000;40800000;", ";40800000;4,4", "0000000000000000;;4,4",
		"0000000000000000;40800000;4,4;", ";0000000000000000;40800000;4,4", "0000000000000000;40800000;4,4;4", "0000000000000000;40800000;4;4", "0000000000000000,40800000,4,4",
		"none;40800000;4,4", "0000000000000000;none;4,4", "0000000000000000;40800000;none",
		"0000000000000000,0000000000000000;40800000;4,4", "0000000000000000;40800000,40800000;4,4", "00000000;40800000;4,4", "0000000000000000;4080000000000000;4,4",
		"0000000000000000;40800000;4", "0000000000000000;40800000;4,4,4", "0000000000000000;40800000;4,", "0000000000000000;40800000;,4", "0000000000000000;40800000;4,4,",
		"0000000000000000;40800000;4,04", "0000000000000000;40800000;4,+4", "0000000000000000;40800000;4, 4", " 0000000000000000;40800000;4,4", "0000000000000000;40800000;4,4 ", "0000000000000000;40800000;4,4\n",
		"0000000000000000;40800000;0,4", "0000000000000000;40800000;4,0", "0000000000000000;40800000;17,4", "0000000000000000;40800000;4,17", "0000000000000000;40800000;-4,4", "0000000000000000;40800000;4,99999999999999999999",
		"0000000000000000;00000000;4,4", "0000000000000000;80000000;4,4", "0000000000000000;c0800000;4,4", "0000000000000000;447a0001;4,4", "0000000000000000;7f800000;4,4", "0000000000000000;7fc00000;4,4",
		"447a000100000000;40800000;4,4", "000000007fc00000;40800000;4,4", "00000000ff800000;40800000;4,4", "3F80000000000000;40800000;4,4",
	) {
		got, ok := impl.ReadView(text)
		wantNoView(t, "ReadView of "+text, got, ok)
	}
}

// grammarRow is a grammar with its text.
type grammarRow struct {
	g    impl.Grammar
	text string
}

func grammarRows() []grammarRow {
	return []grammarRow{
		{impl.DragonGrammar(), "FX;X=X+YF+/Y=-FX-Y"},
		{impl.KochGrammar(), "F;F=F+F--F+F"},
		{impl.BushGrammar(), "F;F=F[+F]F[-F]F"},
		{impl.Grammar{}, ";none"},
		{grammar("F"), "F;none"},
		{grammar("[-]+"), "[-]+;none"},
		{grammar("", rule("A", "")), ";A="},
		{grammar("A", rule("A", ""), rule("B", "A"), rule("Z", "")), "A;A=/B=A/Z="},
		{grammar("NONE", rule("N", "ONE")), "NONE;N=ONE"},
	}
}

func TestGrammarText(t *testing.T) {
	for _, r := range grammarRows() {
		got, ok := impl.GrammarText(r.g)
		wantText(t, "GrammarText", got, ok, r.text)
		back, ok := impl.ReadGrammar(r.text)
		wantGrammar(t, "ReadGrammar of "+r.text, back, ok, r.g)
	}
	for _, g := range validGrammars() {
		text, ok := impl.GrammarText(g)
		wantBool(t, "whether GrammarText succeeds", ok, true)
		back, ok := impl.ReadGrammar(text)
		wantGrammar(t, "ReadGrammar of "+text, back, ok, g)
	}
	for _, g := range wrongGrammars() {
		got, ok := impl.GrammarText(g)
		wantNone(t, "GrammarText of a wrong grammar", got, ok)
	}
}

func TestReadGrammarFails(t *testing.T) {
	long := strings.Repeat("F", 33)
	for _, text := range append(strange(),
		"F", ";", "F;", ";F", "F;F", "none;none", "F;None", "F;NONE", "F;none;", "F;;none", ";F;none", "F;none/", "F;/none", "F;none/none", "F;none=F", "F;none ", " F;none", "F;none\n",
		"F; ", "F;=", "F;=F", "F;F=F/", "F;/F=F", "F;F=F//G=G", "F;F=F;", "F;F=F;G=G", "F;F=F,G=G", "F;F=F=F", "F;F==F", "F;F=F/G", "F;F:F", "F;F F", "F;F= F", "F;F =F",
		"f;none", "F F;none", "F;f=F", "F;F=f", "F;FF=F", "F;+=F", "F;[=F", "F;F=none", "F;1=F", "F;F=1", "\u00c4;none", "F;F=\u00c4", "F;\u00c4=F",
		"F;F=F/F=F", "F;G=F/F=G", "F;A=/C=/B=", long+";none", "F;F="+long, "F;A=/B=/C=/D=/E=/F=/G=/H=/I=", strings.Repeat(";", 70000), "F;"+strings.Repeat("/", 70000), "F;"+strings.Repeat("F=/", 70000),
	) {
		got, ok := impl.ReadGrammar(text)
		wantNoGrammar(t, "ReadGrammar of "+text, got, ok)
	}
	// Eight rules can be reached.
	got, ok := impl.ReadGrammar("F;A=/B=/C=/D=/E=/F=/G=/H=")
	wantBool(t, "whether ReadGrammar takes eight rules", ok && len(got.Rules) == impl.MaxRules, true)
}

// TestTextsAreReadJustAsWritten holds that no two texts are read as the same part.
func TestTextsAreReadJustAsWritten(t *testing.T) {
	whole := []string{"1:3f80000040000000", "bf0000003dcccccd;40400000;7,5", "FX;X=X+YF+/Y=-FX-Y"}
	for _, text := range whole {
		for i := range len(text) + 1 {
			for _, b := range []string{"", " ", "0", "1", "a", "A", "F", "+", "-", ":", ";", ",", "/", "=", "\n", "\x00", "\xff"} {
				for _, rest := range []string{text[i:], text[min(i+1, len(text)):]} {
					other := text[:i] + b + rest
					if m, ok := impl.ReadMap(other); ok {
						again, ok := impl.MapText(m)
						wantText(t, "MapText of ReadMap", again, ok, other)
					}
					if v, ok := impl.ReadView(other); ok {
						again, ok := impl.ViewText(v)
						wantText(t, "ViewText of ReadView", again, ok, other)
					}
					if g, ok := impl.ReadGrammar(other); ok {
						again, ok := impl.GrammarText(g)
						wantText(t, "GrammarText of ReadGrammar", again, ok, other)
					}
				}
			}
		}
	}
}
