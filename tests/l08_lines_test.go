package tests

import (
	"slices"
	"strings"
	"testing"

	"loop.example/g01318/impl"
)

// outputRow is a line with its output.
type outputRow struct{ line, output string }

// toldLines are lines for a new desk, one after another.
func toldLines() []outputRow {
	return append(toldFirst(), toldThen()...)
}

func toldFirst() []outputRow {
	return []outputRow{
		{"map", "0:bf80000000000000"},
		{"view", "0000000000000000;40800000;4,4"},
		{"grammar", "FX;X=X+YF+/Y=-FX-Y"},
		{"points", "0000000000000000,3f80000000000000"},
		{"once 3f80000040000000", "c080000040800000"},
		{"orbit 3e99999abe4ccccd 6", "3e99999abe4ccccd,bf733333bdf5c290,bde52bd83e6978d5,bf850d1abd510113,3d9f7ea03dd94082,bf80aa003c875a86"},
		{"escape 3f80000040000000 9", "0"},
		{"escape 3e99999a00000000 128", "128"},
		{"period 0000000000000000 0 5 00000000", "2"},
		{"period 3dcccccd3dcccccd 100 8 3a83126f", "2"},
		{"escapes 20", "1,2,2,1,3,20,5,2,3,20,5,2,1,2,2,1"},
		{"zoom bf4000003dcccccd 40200000", "ok"},
		{"view", "bf4000003dcccccd;3fcccccd;4,4"},
		{"escapes 60", "3,4,8,60,6,13,60,60,13,60,60,60,3,5,60,60"},
		{"word 3", "FX+YF++-FX-YF++-FX+YF+--FX-YF+"},
		{"long 40", "no"},
		{"draw 6 3e800000 3f000000", "65"},
		{"length", "42000000"},
		{"area", "40800000"},
		{"span", "c0200000c0900000,3f8000003f800000"},
		{"boxes 3f800000", "22"},
		{"ruler 3fc00000", "4133504f"},
		{"simple 3f000000", "16"},
		{"points", "0000000000000000,000000003f800000,bfc000003f800000,bfc00000bf000000,c020000000000000,c0000000bf800000,bf800000bf000000,bf800000c0000000,c0200000c0000000,c0000000c0400000,bf000000c0400000,bf000000bfc00000,00000000c0400000,3f800000c0200000,3f800000c0800000,00000000c0800000"},
		{"fit 0000000000000000 3f80000000000000", "ok"},
		{"points", "0000000000000000,be80000000000000,be800000bec00000,3e000000bec00000,00000000bf200000,3e800000bf000000,3e000000be800000,3f000000be800000,3f000000bf200000,3f400000bf000000,3f400000be000000,3ec00000be000000,3f40000000000000,3f2000003e800000,3f8000003e800000,3f80000000000000"},
		{"map 1:beb33333be99999a", "ok"},
		{"map", "1:beb33333be99999a"},
		{"orbit 3f00000000000000 4", "3f00000000000000,be666666be99999a,be99ed91bea31aa0,be923ffdbeb54634"},
		{"once bf800000c0000000", "412a66663fd9999a"},
		{"map 2:bfe00000bd23d70a", "ok"},
		{"once bf800000bf000000", "bf8000003f75c28f"},
		{"period bfe0000000000000 3 40 3dcccccd", "3"},
		{"map 3:be8000003f000000", "ok"},
		{"escape 3f4000003e800000 100", "6"},
		{"view bf40000000000000;3f400000;5,3", "ok"},
		{"escapes 30", "30,30,22,30,30,30,30,30,30,30,30,30,22,30,30"},
	}
}

func toldThen() []outputRow {
	return []outputRow{
		{"grammar F;F=F+F--F+F", "ok"},
		{"draw 2 3e2aaaab 3e4ccccd", "17"},
		{"length", "404cccce"},
		{"span", "00000000b2800000,3fe666683f050581"},
		{"boxes 3e4ccccd", "15"},
		{"ruler 3e99999a", "4019999a"},
		{"area", "be669214"},
		{"grammar ;none", "ok"},
		{"word 16", ""},
		{"grammar", ";none"},
		{"long 64", "0"},
		{"draw 5 3e800000 3f800000", "1"},
		{"points", "0000000000000000"},
		{"length", "00000000"},
		{"span", "0000000000000000,0000000000000000"},
		{"boxes 3f800000", "1"},
		{"ruler 3f800000", "00000000"},
		{"simple 00000000", "no"},
		{"fit 0000000000000000 3f80000000000000", "no"},
		{"coast bf80000000000000 3f80000000000000 5 3f000000 20", "33"},
		{"points none", "ok"},
		{"points", "none"},
		{"length", "00000000"},
		{"area", "00000000"},
		{"span", "no"},
		{"boxes 3f800000", "0"},
		{"ruler 3f800000", "no"},
		{"coast bf80000000000000 3f8000003f000000 3 3e99999a 20", "9"},
		{"points", "bf80000000000000,bf2c358bbcda40b8,bef1311dbe925bc8,be8a78f4bc7169e0,3d88d667bc8d6670,3e9bfe5c3deba6ce,3f11f7023e333d01,3f3cf4cf3ecc9f92,3f8000003f000000"},
		{"area", "3eb5ddb7"},
		{"simple 3dcccccd", "6"},
		{"points", "bf80000000000000,bf2c358bbcda40b8,bef1311dbe925bc8,be8a78f4bc7169e0,3f11f7023e333d01,3f8000003f000000"},
		{"coast 0000000080000000 8000000000000001 0 00000000 2147483647", "2"},
		{"points", "0000000080000000,8000000000000001"},
		{"points 0000000080000000,80000000ffffffff", "no"},
		{"points 00000000800000000", "no"},
		{"points 7f80000000000000", "no"},
		{"points 0000000000000000,4080000000000000,4080000040400000", "ok"},
		{"area", "40c00000"},
		{"length", "40e00000"},
		{"span", "0000000000000000,4080000040400000"},
		{"boxes 40000000", "3"},
	}
}

func wantOutput(t *testing.T, d impl.Desk, line, want string) impl.Desk {
	t.Helper()
	after, output, ok := impl.DeskCommand(d, line)
	wantText(t, "the output of "+line, output, ok, want)
	return after
}

// wantLeft checks that a line with such an output changes nothing.
func wantLeft(t *testing.T, d impl.Desk, line, want string) {
	t.Helper()
	wantDesk(t, "the desk behind "+line, wantOutput(t, d, line, want), true, d)
}

func TestLinesAsTold(t *testing.T) {
	d := impl.NewDesk()
	var script, outputs strings.Builder
	for _, r := range toldLines() {
		d = wantOutput(t, d, r.line, r.output)
		script.WriteString(r.line + "\n")
		outputs.WriteString(r.output + "\n")
	}
	after, got, ok := impl.RunDesk(impl.NewDesk(), script.String())
	wantText(t, "RunDesk", got, ok, outputs.String())
	wantDesk(t, "RunDesk", after, ok, d)
}

func TestExamplesOfChapter8(t *testing.T) {
	d, output, ok := impl.RunDesk(impl.NewDesk(), "long 3\nword 1\nlength\n")
	wantText(t, "RunDesk", output, ok, "8\nFX+YF+\n3f800000\n")
	wantDesk(t, "RunDesk", d, ok, impl.NewDesk())
}

// lineForm has the words of lines with a name: a letter of kinds for each one.
type lineForm struct{ name, kinds string }

func lineForms() []lineForm {
	return []lineForm{
		{"map", ""}, {"map", "M"}, {"view", ""}, {"view", "V"}, {"grammar", ""}, {"grammar", "G"}, {"points", ""}, {"points", "P"},
		{"once", "Z"}, {"orbit", "ZN"}, {"escape", "ZN"}, {"period", "ZNNX"}, {"escapes", "N"}, {"zoom", "ZX"},
		{"word", "N"}, {"long", "N"}, {"draw", "NXX"}, {"coast", "ZZNXN"}, {"simple", "X"}, {"fit", "ZZ"},
		{"length", ""}, {"area", ""}, {"span", ""}, {"boxes", "X"}, {"ruler", "X"},
	}
}

// goodWords has a word of each kind with which all forms are carried out.
func goodWords() map[rune]string {
	return map[rune]string{
		'M': "1:bf00000000000000", 'V': "0000000000000000;3f800000;2,3", 'G': "F;F=FF", 'P': "0000000000000000,4000000000000000",
		'N': "2", 'X': "3f800000", 'Z': "3f80000000000000",
	}
}

// badWords are words that are not what they must be, for whatever function.
func badWords() map[rune][]string {
	return map[rune][]string{
		'M': {"", "0", "0:", ":", "4:0000000000000000", "0:447a000100000000", "0:none", "none", "0:0000000000000000:", "00:0000000000000000"},
		'V': {"", ";;", "none", "0000000000000000;3f800000;2,17", "0000000000000000;00000000;2,3", "0000000000000000;3f800000;2", "0000000000000000;3f800000;2,3;"},
		'G': {"", "F", "F;", "none", "f;none", "F;F=FF/F=FF", "F;G=/F=", "F;f=F"},
		'P': {"", "0", "3f800000", "none,", "0000000000000000,", "7f80000000000000", "000000007fc00000", "ff80000000000000,3f80000000000000", strings.Repeat("3f80000000000000,", 256) + "3f80000000000000"},
		'N': {"", "-1", "-0", "02", "+2", "2.", "x", "none", "2,2", "3f800000", "1000000000000001", "1000000000000000", "-1000000000000000", "99999999999999999999", "2\n", "\t2", "\x00"},
		'X': {"", "1", "none", "3f80000", "3f8000000", "3F800000", "3f800000,", "3f800000,3f800000", "3f80000000000000", "7fc00001", "7f800000", "ff800000", "7fc00000", "3f800000\n", "x"},
		'Z': {"", "1", "none", "3f800000", "3f8000000000000", "3f800000000000000", "3F80000000000000", "3f80000000000000,", "3f80000000000000,3f80000000000000", "7fc0000100000000", "7f80000000000000", "00000000ff800000", "7fc000007fc00000", "i"},
	}
}

// lineOfWords returns the line of a form with words of its kinds.
func lineOfWords(f lineForm, words []string) string {
	return strings.Join(append([]string{f.name}, words...), " ")
}

func wordsOfForm(f lineForm) []string {
	var words []string
	for _, kind := range f.kinds {
		words = append(words, goodWords()[kind])
	}
	return words
}

func TestWordsThatAreWrong(t *testing.T) {
	for _, f := range lineForms() {
		d, good := impl.NewDesk(), lineOfWords(f, wordsOfForm(f))
		_, output, ok := impl.DeskCommand(d, good)
		wantBool(t, "whether "+good+" is carried out", ok && output != "no" && output != "what", true)
		for i, kind := range f.kinds {
			for _, wrong := range badWords()[kind] {
				words := wordsOfForm(f)
				words[i] = wrong
				wantLeft(t, d, lineOfWords(f, words), "no")
			}
		}
	}
}

// TestNumbersOfWords takes each name with all numbers of words, and good lines
// with words too many.
func TestNumbersOfWords(t *testing.T) {
	counts := map[string][]int{}
	for _, f := range lineForms() {
		counts[f.name] = append(counts[f.name], len(f.kinds))
	}
	d := impl.NewDesk()
	for name, forms := range counts {
		for count := range 9 {
			want := "what"
			if slices.Contains(forms, count) {
				want = "no"
			}
			// The name alone is wrong only where no form is without words.
			if count > 0 || want == "what" {
				wantLeft(t, d, name+strings.Repeat(" ", count), want)
				wantLeft(t, d, name+strings.Repeat(" x", count), want)
			}
			wantLeft(t, d, " "+name+strings.Repeat(" x", count), "what")
		}
	}
	for _, f := range lineForms() {
		line := lineOfWords(f, wordsOfForm(f))
		wantLeft(t, d, " "+line, "what")
		for _, more := range []string{" 2", " 3f800000", " x", "  "} {
			if len(f.kinds) > 0 || more == "  " {
				wantLeft(t, d, line+more, "what")
			}
		}
		if len(f.kinds) > 0 {
			wantLeft(t, d, line+" ", "what")
			wantLeft(t, d, strings.Replace(line, " ", "  ", 1), "what")
		}
	}
}

func TestLinesThatAreNone(t *testing.T) {
	for _, d := range validDesks() {
		for _, line := range []string{
			"", " ", "  ", "       ", "\x00", "\t", "\r", "\n", "\xff", "ok", "no", "what", "desk", "none", "0", "3f800000",
			"Map", "MAP", "map\t", "\tmap", "map\r", "map\n", "\nmap", "map\n ", "mapx", "xmap", "ma", "map\x00", "map,", "map:", "map=0:0000000000000000", "map\t0:0000000000000000", "map\u00a00:0000000000000000",
			"maps", "views", "point", "point 0000000000000000", "grammars", "once", "orbit", "escape", "period", "zoom", "word", "long", "draw", "coast", "simple", "fit", "boxes", "ruler", "escapes",
			"length 1", "area 0", "span none", "length ", "area ", "span ", "span  ", "lengths", "burn 3", "smooth 0000000000000000 3",
			"long 3\nlong 3", "map\nmap", "map map map", "word 3 3", "word  3", " word 3", "word 3 ", "word\t3",
		} {
			wantLeft(t, d, line, "what")
		}
		// A newline is a byte of a word, like others.
		for _, line := range []string{"map ", "view ", "grammar ", "points ", "long ", "word \n", "long 3\n", "long \n3", "map 0:0000000000000000\n", "map map", "points points", "simple x", "once i"} {
			wantLeft(t, d, line, "no")
		}
	}
}

func TestDeskCommandFails(t *testing.T) {
	for _, d := range wrongDesks() {
		for _, line := range []string{"map", "map 0:0000000000000000", "view 0000000000000000;3f800000;2,3", "grammar F;none", "points none", "long 3", "", "what"} {
			after, output, ok := impl.DeskCommand(d, line)
			wantNone(t, "DeskCommand at a wrong desk", output, ok)
			wantNoDesk(t, "DeskCommand at a wrong desk", after, ok)
		}
		for _, script := range []string{"", "map\n", "map 0:0000000000000000\npoints none\n", "\n"} {
			after, output, ok := impl.RunDesk(d, script)
			wantNone(t, "RunDesk at a wrong desk", output, ok)
			wantNoDesk(t, "RunDesk at a wrong desk", after, ok)
		}
		for _, journal := range []string{"", "20171 map\n", "x"} {
			after, count, ok := impl.RunJournal(d, journal)
			wantNone(t, "RunJournal at a wrong desk", count, ok)
			wantNoDesk(t, "RunJournal at a wrong desk", after, ok)
		}
	}
}

// TestLongLines has lines that are longer than scripts can be.
func TestLongLines(t *testing.T) {
	d := impl.NewDesk()
	for _, line := range []string{strings.Repeat(" ", 70000), strings.Repeat("map ", 20000), strings.Repeat("x", 70000), "word 1 " + strings.Repeat(" ", 70000), strings.Repeat("\n", 70000)} {
		wantLeft(t, d, line, "what")
	}
	for _, line := range []string{"map " + strings.Repeat("0", 70000), "points " + strings.Repeat(",", 70000), "grammar " + strings.Repeat("/", 70000), "long " + strings.Repeat("3", 70000), "view " + strings.Repeat(";", 70000)} {
		wantLeft(t, d, line, "no")
	}
}
