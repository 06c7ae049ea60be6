package tests

import (
	"strings"
	"testing"

	"loop.example/g01318/impl"
)

func placeText(z complex64) string {
	text, _ := impl.ComplexText([]complex64{z})
	return text
}

func sizeText(x float32) string {
	text, _ := impl.NumbersText([]float32{x})
	return text
}

// placesOfLines, sizesOfLines and countsOfLines are words of lines, such that
// functions take and others.
func placesOfLines() []complex64 {
	return []complex64{0, complex(minusZero, leastNumber), 0.25 - 0.5i, -1, 1.5 + 2i, complex(1000, -1000), complex(afterSmall, 0), complex(mostNumber, -mostNumber), complex(inf, 0), complex(1, nan)}
}

func sizesOfLines() []float32 {
	return []float32{0, minusZero, leastNumber, 0.125, 0.25, 1, -1, 2, 1000, mostNumber, inf, minusInf, nan}
}

func countsOfLines() []int64 {
	return []int64{0, 1, 2, 5, 7, 8, 16, 17, 64, 65, 128, 129, -1, 2147483647, 2147483648}
}

// wantTold checks a line that changes nothing, and has the output no if what it tells fails.
func wantTold(t *testing.T, d impl.Desk, line, text string, ok bool) {
	t.Helper()
	if !ok {
		text = "no"
	}
	wantLeft(t, d, line, text)
}

// wantChange checks a line that changes the desk unless it fails.
func wantChange(t *testing.T, d impl.Desk, line, output string, ok bool, change func(d *impl.Desk)) {
	t.Helper()
	want := d
	if ok {
		change(&want)
	} else {
		output = "no"
	}
	wantDesk(t, "the desk behind "+line, wantOutput(t, d, line, output), true, want)
}

// wantDrawn checks a line that replaces the points and tells how many they are.
func wantDrawn(t *testing.T, d impl.Desk, line string, points []complex64, ok bool) {
	t.Helper()
	wantChange(t, d, line, impl.Decimal(int64(len(points))), ok, func(d *impl.Desk) { d.Points = points })
}

// numbersOrNo returns the text of a number.
func numbersOrNo(x float32, ok bool) (string, bool) {
	return sizeText(x), ok
}

func decimalOrNo(n int64, ok bool) (string, bool) {
	return impl.Decimal(n), ok
}

// joined returns the line with these words.
func joined(words ...string) string {
	return strings.Join(words, " ")
}

func wantParts(t *testing.T, d impl.Desk) {
	t.Helper()
	text, ok := impl.MapText(d.Map)
	wantTold(t, d, "map", text, ok)
	text, ok = impl.ViewText(d.View)
	wantTold(t, d, "view", text, ok)
	text, ok = impl.GrammarText(d.Grammar)
	wantTold(t, d, "grammar", text, ok)
	text, ok = impl.ComplexText(d.Points)
	wantTold(t, d, "points", text, ok)
}

func wantPartsRead(t *testing.T, d, from impl.Desk) {
	t.Helper()
	text, _ := impl.MapText(from.Map)
	wantChange(t, d, "map "+text, "ok", true, func(d *impl.Desk) { d.Map = from.Map })
	text, _ = impl.ViewText(from.View)
	wantChange(t, d, "view "+text, "ok", true, func(d *impl.Desk) { d.View = from.View })
	text, _ = impl.GrammarText(from.Grammar)
	wantChange(t, d, "grammar "+text, "ok", true, func(d *impl.Desk) { d.Grammar = from.Grammar })
	text, _ = impl.ComplexText(from.Points)
	wantChange(t, d, "points "+text, "ok", true, func(d *impl.Desk) { d.Points = from.Points })
}

func wantCounts(t *testing.T, d impl.Desk) {
	t.Helper()
	for _, n := range countsOfLines() {
		count := impl.Decimal(n)
		escapes, ok := impl.EscapesIn(d.View, n)
		text, isList := impl.ListText(escapes)
		wantTold(t, d, joined("escapes", count), text, ok && isList)
		word, ok := impl.Rewrite(d.Grammar, n)
		wantTold(t, d, joined("word", count), word, ok)
		text, ok = decimalOrNo(impl.LongAfter(d.Grammar, n))
		wantTold(t, d, joined("long", count), text, ok)
		for _, z := range placesOfLines() {
			orbit, ok := impl.OrbitOf(d.Map, z, n)
			text, _ := impl.ComplexText(orbit)
			wantTold(t, d, joined("orbit", placeText(z), count), text, ok)
			text, ok = decimalOrNo(impl.EscapeOf(d.Map, z, n))
			wantTold(t, d, joined("escape", placeText(z), count), text, ok)
		}
		for _, turn := range sizesOfLines()[3:7] {
			for _, step := range sizesOfLines() {
				word, ok := impl.Rewrite(d.Grammar, n)
				line, isLine := impl.TurtleLine(word, turn, step)
				wantDrawn(t, d, joined("draw", count, sizeText(turn), sizeText(step)), line, ok && isLine)
			}
		}
	}
}

func wantMeasured(t *testing.T, d impl.Desk) {
	t.Helper()
	text, ok := numbersOrNo(impl.LongOfLine(d.Points))
	wantTold(t, d, "length", text, ok)
	text, ok = numbersOrNo(impl.LoopArea(d.Points))
	wantTold(t, d, "area", text, ok)
	low, high, ok := impl.SpanOf(d.Points)
	wantTold(t, d, "span", placeText(low)+","+placeText(high), ok)
	for _, x := range sizesOfLines() {
		text, ok = decimalOrNo(impl.BoxesOf(d.Points, x))
		wantTold(t, d, joined("boxes", sizeText(x)), text, ok)
		text, ok = numbersOrNo(impl.RulerLong(d.Points, x))
		wantTold(t, d, joined("ruler", sizeText(x)), text, ok)
		simple, ok := impl.SimpleCoast(d.Points, x)
		wantDrawn(t, d, joined("simple", sizeText(x)), simple, ok)
	}
}

func wantPlaces(t *testing.T, d impl.Desk) {
	t.Helper()
	for _, z := range placesOfLines() {
		once, ok := impl.MapOnce(d.Map, z)
		wantTold(t, d, joined("once", placeText(z)), placeText(once), ok)
		for _, x := range sizesOfLines() {
			view, ok := impl.ZoomView(d.View, z, x)
			wantChange(t, d, joined("zoom", placeText(z), sizeText(x)), "ok", ok, func(d *impl.Desk) { d.View = view })
			text, ok := decimalOrNo(impl.PeriodOf(d.Map, z, 3, 40, x))
			wantTold(t, d, joined("period", placeText(z), "3 40", sizeText(x)), text, ok)
		}
		for _, w := range placesOfLines() {
			line, ok := impl.FitLine(d.Points, z, w)
			wantChange(t, d, joined("fit", placeText(z), placeText(w)), "ok", ok, func(d *impl.Desk) { d.Points = line })
		}
	}
}

// TestDeskTellsWhatFunctionsTell holds the first half of promise 9.
func TestDeskTellsWhatFunctionsTell(t *testing.T) {
	desks := validDesks()
	for i, d := range desks {
		wantParts(t, d)
		wantPartsRead(t, d, desks[(i+7)%len(desks)])
		wantPartsRead(t, d, desks[len(desks)-1-i])
		wantCounts(t, d)
		wantMeasured(t, d)
		wantPlaces(t, d)
	}
}

// TestOrderOfWords tells apart words of one kind in one line.
func TestOrderOfWords(t *testing.T) {
	d := impl.NewDesk()
	for _, n := range countsOfLines() {
		for _, k := range countsOfLines() {
			for _, x := range []float32{0, 0.5, nan} {
				text, ok := decimalOrNo(impl.PeriodOf(d.Map, 0.25, n, k, x))
				wantTold(t, d, joined("period", placeText(0.25), impl.Decimal(n), impl.Decimal(k), sizeText(x)), text, ok)
				for _, z := range placesOfLines() {
					coast, _, ok := impl.CoastBetween(z, 0.5i, n, x, k)
					wantDrawn(t, d, joined("coast", placeText(z), placeText(0.5i), impl.Decimal(n), sizeText(x), impl.Decimal(k)), coast, ok)
				}
			}
		}
	}
	for _, turn := range sizesOfLines() {
		for _, step := range sizesOfLines() {
			line, ok := impl.TurtleLine("FX+YF++-FX-YF+", turn, step)
			wantDrawn(t, d, joined("draw 2", sizeText(turn), sizeText(step)), line, ok)
		}
	}
}

// TestManyEscapes has views with more places than a list has items.
func TestManyEscapes(t *testing.T) {
	for _, sides := range [][2]int64{{8, 8}, {16, 4}, {4, 16}, {13, 5}, {5, 13}, {16, 5}, {9, 8}, {16, 16}} {
		d := changedDesk(func(d *impl.Desk) { d.View.Columns, d.View.Rows = sides[0], sides[1] })
		_, output, ok := impl.DeskCommand(d, "escapes 9")
		wantBool(t, "whether DeskCommand succeeds", ok, true)
		wantBool(t, "whether escapes are told", output != "no", sides[0]*sides[1] <= impl.MaxItems)
		wantBool(t, "whether all escapes are told", output == "no" || int64(strings.Count(output, ",")) == sides[0]*sides[1]-1, true)
	}
}

// scriptOf returns the script of lines.
func scriptOf(lines []string) string {
	var script strings.Builder
	for _, line := range lines {
		script.WriteString(line + "\n")
	}
	return script.String()
}

// someLines change a desk, do not, and are none.
func someLines() []string {
	return []string{
		"", "grammar F;F=F+F--F+F", "draw 3 3e2aaaab 3e4ccccd", " ", "length", "simple 3dcccccd", "simple bf800000", "points", "map 3:be8000003f000000", "map", "map 4:be8000003f000000",
		"zoom 3f80000000000000 40000000", "view", "escapes 20", "word 1", "word 17", "grammar ;none", "word 1", "long 1", "coast 0000000000000000 3f80000000000000 3 3f000000 5", "area", "span", "what", "no", "",
	}
}

func TestRunDesk(t *testing.T) {
	lines := someLines()
	d, want := impl.NewDesk(), ""
	for count := range len(lines) + 1 {
		after, got, ok := impl.RunDesk(impl.NewDesk(), scriptOf(lines[:count]))
		wantText(t, "RunDesk", got, ok, want)
		wantDesk(t, "RunDesk", after, ok, d)
		if count < len(lines) {
			_, output, _ := impl.DeskCommand(d, lines[count])
			d, _, _ = impl.DeskCommand(d, lines[count])
			want += output + "\n"
		}
	}
	for _, d := range validDesks() {
		after, got, ok := impl.RunDesk(d, "")
		wantText(t, "RunDesk of no lines", got, ok, "")
		wantDesk(t, "RunDesk of no lines", after, ok, d)
		after, got, ok = impl.RunDesk(d, "\n")
		wantText(t, "RunDesk of an empty line", got, ok, "what\n")
		wantDesk(t, "RunDesk of an empty line", after, ok, d)
	}
	_, got, ok := impl.RunDesk(impl.NewDesk(), "\n\nmap\r\n\n map\n")
	wantText(t, "RunDesk of lines that are none", got, ok, "what\nwhat\nwhat\nwhat\nwhat\n")
}

func TestRunDeskFails(t *testing.T) {
	d := impl.NewDesk()
	for _, script := range []string{"map", " ", "x", "\x00", "map\nview", "map\n ", "\n\nlength", "points none\nmap", "map\n\r", strings.Repeat("\n", 16001), strings.Repeat("map\n", 4001), strings.Repeat("x", 16000), strings.Repeat("x", 16000) + "\n"} {
		after, output, ok := impl.RunDesk(d, script)
		wantNone(t, "RunDesk of no script", output, ok)
		wantNoDesk(t, "RunDesk of no script", after, ok)
	}
	for _, script := range []string{strings.Repeat("\n", 16000), strings.Repeat("x", 15999) + "\n", strings.Repeat("map\n", 4000), strings.Repeat("long 3\n", 2285) + "\n\n\n\n\n"} {
		after, output, ok := impl.RunDesk(d, script)
		wantDesk(t, "RunDesk of the longest script", after, ok, d)
		wantInteger(t, "how many outputs there are", int64(strings.Count(output, "\n")), ok, int64(strings.Count(script, "\n")))
	}
	// What is returned has no such limit.
	_, output, ok := impl.RunDesk(d, strings.Repeat("word 8\n", 2285))
	word, _ := impl.Rewrite(impl.DragonGrammar(), 8)
	wantBool(t, "whether RunDesk returns long outputs", ok && output == strings.Repeat(word+"\n", 2285), true)
}

func TestCountOutputs(t *testing.T) {
	for _, r := range []struct {
		text      string
		bad, good int64
	}{
		{"", 0, 0}, {"\n", 0, 1}, {"\n\n\n", 0, 3}, {"no\n", 1, 0}, {"what\n", 1, 0}, {"ok\n", 0, 1}, {"8\n", 0, 1},
		{"no\nwhat\nok\n\nno\n", 3, 2}, {"no \n no\nNo\nnone\nnow\nwhat \n what\nWhat\nwhats\nhat\nnowhat\nno what\nno\r\n", 0, 13},
		{strings.Repeat("\n", 16000), 0, 16000}, {strings.Repeat("no\n", 5333), 5333, 0}, {strings.Repeat("what\n", 3200), 3200, 0}, {strings.Repeat("x", 15999) + "\n", 0, 1}, {"\x00\n\xff\n", 0, 2},
	} {
		bad, good, ok := impl.CountOutputs(r.text)
		wantInteger(t, "how many outputs are no or what", bad, ok, r.bad)
		wantInteger(t, "how many are others", good, ok, r.good)
	}
	for _, text := range []string{"no", "what", "no\nwhat", "no\n ", "\nx", " ", "\r", strings.Repeat("\n", 16001), strings.Repeat("what\n", 3201), strings.Repeat("x", 16000), strings.Repeat("x", 16000) + "\n"} {
		bad, good, ok := impl.CountOutputs(text)
		wantNone(t, "CountOutputs of no outputs", bad, ok)
		wantNone(t, "CountOutputs of no outputs", good, ok)
	}
	_, outputs, _ := impl.RunDesk(impl.NewDesk(), scriptOf(someLines()))
	bad, good, ok := impl.CountOutputs(outputs)
	wantInteger(t, "how many outputs are no or what", bad, ok, 8)
	wantInteger(t, "how many outputs there are", bad+good, ok, int64(len(someLines())))
}
