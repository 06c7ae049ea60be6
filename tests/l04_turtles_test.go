package tests

import (
	"strconv"
	"strings"
	"testing"

	"loop.example/g01318/impl"
)

// line reads points from the bits of their parts, without the program.
func line(text string) []complex64 {
	var points []complex64
	for _, bits := range strings.Fields(text) {
		n, err := strconv.ParseUint(bits, 16, 64)
		if err != nil {
			panic(err)
		}
		points = append(points, at(n))
	}
	return points
}

func endlessNumbers() []float32 { return []float32{inf, minusInf, nan, otherNaN} }

// wrongWordTexts are texts that are no words.
func wrongWordTexts() []string {
	return []string{"f", "F F", "F\n", "F\xff", "\u00c4", "F\x00", strings.Repeat("+", 4001)}
}

func TestTurtleLine(t *testing.T) {
	rows := []struct {
		word       string
		turn, step float32
		want       string
	}{
		{"F+F", number(0x3e800000), number(0x3f800000), "0000000000000000 3f80000000000000 3f8000003f800000"},
		{"FF-G+AF", number(0x3dcccccd), number(0x3f000000), "0000000000000000 3f00000000000000 3f80000000000000 3fb3c6efbe967918 3ff3c6efbe967918"},
		{"F++F-GF", number(0x3eaaaaab), number(0x40400000), "0000000000000000 4040000000000000 3fc00003c02646e2 34000000b4800000 bfc00001402646e0"},
		{"+F-F-F-F", number(0x40e9999a), number(0xbfd9999a), "0000000000000000 3f067c15bfcef327 bf965b90bfcef327 bf263b0b00000000 3f39da5bbf7fce15"},
		{"F-F-F-F-F", number(0xbe4ccccd), number(0x3a83126f), "0000000000000000 3a83126f00000000 3aab93533a795054 3a03126f3ac9b2f7 b9a2038c3a795052 2f400000ae800000"},
		{"-FXYF+G", number(0x4b189680), number(0x40000000), "0000000000000000 4000000000000000 4080000000000000 40c0000000000000"},
		{"F+F+F", number(0x00000001), number(0x00000003), "0000000000000000 0000000300000000 0000000600000000 0000000900000000"},
		{"F+F-F", number(0x3e000000), number(0x80000005), "0000000000000000 8000000500000000 8000000980000004 8000000e80000004"},
		{"F+F", number(0x59800000), number(0x3f800000), "0000000000000000 3f80000000000000 4000000000000000"},
		{"F+F", number(0x59000000), number(0x3f800000), "0000000000000000 3f80000000000000 4000000000000000"},
		{"F-F", number(0x4b800000), number(0x3f800000), "0000000000000000 3f80000000000000 4000000000000000"},
		// No moves, and moves of no length, which begin with +0.
		{"", 0.25, 1, "0000000000000000"},
		{"ABCDEHIJKLMNOPQRSTUVWXYZ+-", 0.25, 1, "0000000000000000"},
		{"F+F", 0.5, 0, "0000000000000000 0000000000000000 0000000000000000"},
		{"-F", minusZero, minusZero, "0000000000000000 0000000000000000"},
		// Only these letters move it.
		{"AFBGC", 0.25, 2, "0000000000000000 4000000000000000 4080000000000000"},
		// A turn that is not finite does nothing where no move follows.
		{"F++", mostNumber, 1, "0000000000000000 3f80000000000000"},
		{"F++--", mostNumber, 1, "0000000000000000 3f80000000000000"},
		// The greatest numbers.
		{"F", 0, mostNumber, "0000000000000000 7f7fffff00000000"},
		{"F+F", 0.5, mostNumber, "0000000000000000 7f7fffff00000000 0000000000000000"},
	}
	for _, r := range rows {
		got, ok := impl.TurtleLine(r.word, r.turn, r.step)
		wantList(t, "TurtleLine "+r.word, got, ok, line(r.want))
	}
}

// TestTurtleTurns leads turtles to squares, nearly, to the left and to the right.
func TestTurtleTurns(t *testing.T) {
	left, _ := impl.TurtleLine("F+F+F+F", 0.25, 1)
	right, _ := impl.TurtleLine("F-F-F-F", 0.25, 1)
	for i, want := range []complex64{0, 1, 1 + 1i, 1i, 0} {
		if impl.LongOf(left[i]-want) > 0.000001 || impl.LongOf(right[i]-impl.ConjugateOf(want)) > 0.000001 {
			t.Errorf("the point %d of squares is %v and %v", i, left[i], right[i])
		}
	}
	// Turns are 32-bit numbers: 0.1 is added ten times.
	tenth, _ := impl.TurtleLine("++++++++++F", 0.1, 1)
	var turn float32
	for range 10 {
		turn += 0.1
	}
	wantComplex(t, "ten turns", tenth[1], impl.PhasorOf(float64(turn)))
}

func TestTurtleLineLimits(t *testing.T) {
	most, ok := impl.TurtleLine(strings.Repeat("F", 255), 0, 1)
	if !ok || len(most) != 256 || most[255] != 255 {
		t.Errorf("TurtleLine of 255 moves has %d points, %v", len(most), ok)
	}
	long, ok := impl.TurtleLine(strings.Repeat("+F-", 255)+strings.Repeat("A", 4000-3*255), 0, -1)
	if !ok || len(long) != 256 || long[255] != -255 {
		t.Errorf("TurtleLine of the longest word has %d points, %v", len(long), ok)
	}
	for _, word := range []string{strings.Repeat("F", 256), strings.Repeat("G", 256), strings.Repeat("FG", 128), strings.Repeat("F", 4000)} {
		got, ok := impl.TurtleLine(word, 0, 1)
		wantNoList(t, "TurtleLine of too many moves", got, ok)
	}
}

func TestTurtleLineFails(t *testing.T) {
	fails := func(what, word string, turn, step float32) {
		t.Helper()
		got, ok := impl.TurtleLine(word, turn, step)
		wantNoList(t, "TurtleLine "+what, got, ok)
	}
	for _, word := range append(wrongWordTexts(), "[", "]", "[]", "F[F]F", "F]", "][") {
		fails("of no such word", word, 0.25, 1)
	}
	for _, x := range endlessNumbers() {
		for _, word := range []string{"", "F", "+F", "+"} {
			fails("with a wrong turn", word, x, 1)
			fails("with a wrong step", word, 0.25, x)
		}
	}
	fails("to the end of numbers", "FF", 0, mostNumber)
	fails("to the end of numbers", "FF", 0, -mostNumber)
	fails("to the end of numbers and back", "FF+FF", 0.5, mostNumber)
	fails("with a turn that is not finite", "++F", mostNumber, 1)
	fails("with a turn that is not finite", "--F", mostNumber, 1)
	fails("with a turn that is not finite", "++--F", mostNumber, 1)
	fails("with a turn that is not finite and no step", "++F", mostNumber, 0)
}

// wantTwigs checks where moves begin and end.
func wantTwigs(t *testing.T, what string, begins, ends []complex64, ok bool, wantBegins, wantEnds []complex64) {
	t.Helper()
	wantList(t, what+": begins", begins, ok, wantBegins)
	wantList(t, what+": ends", ends, ok, wantEnds)
}

func TestTurtleTwigs(t *testing.T) {
	rows := []struct {
		word         string
		turn, step   float32
		begins, ends string
	}{
		{"F[+F]F[-F]F", number(0x3dcccccd), number(0x3f800000), "0000000000000000 3f80000000000000 3f80000000000000 4000000000000000 4000000000000000", "3f80000000000000 3fe78dde3f167918 4000000000000000 4033c6efbf167918 4040000000000000"},
		{"[F]+[G[+F]F]F", number(0x3e99999a), number(0xbf333333), "0000000000000000 0000000000000000 3e5d80e1bf2a6de8 3e5d80e1bf2a6de8 0000000000000000", "bf33333300000000 3e5d80e1bf2a6de8 3f485a08be823245 3edd80e1bfaa6de8 3e5d80e1bf2a6de8"},
		{"[[F+]-F]F", number(0x3d4ccccd), number(0x40200000), "0000000000000000 0000000000000000 0000000000000000", "4020000000000000 40182b47bf45c558 4020000000000000"},
		{"F[F]F", 0, 1, "0000000000000000 3f80000000000000 3f80000000000000", "3f80000000000000 4000000000000000 4000000000000000"},
		// Without moves, there are no twigs.
		{"", 0.25, 1, "", ""},
		{"[[]][A+]-", 0.25, 1, "", ""},
		// What happens in brackets is forgotten behind them.
		{"[++]F", mostNumber, 1, "0000000000000000", "3f80000000000000"},
		{"[F]F", 0, mostNumber, "0000000000000000 0000000000000000", "7f7fffff00000000 7f7fffff00000000"},
	}
	for _, r := range rows {
		begins, ends, ok := impl.TurtleTwigs(r.word, r.turn, r.step)
		wantTwigs(t, "TurtleTwigs "+r.word, begins, ends, ok, line(r.begins), line(r.ends))
	}
}

func TestTurtleTwigsLimits(t *testing.T) {
	// 3998 letters lead into brackets and back, and one each moves there and behind them.
	deep := strings.Repeat("[", 1999) + "F" + strings.Repeat("]", 1999)
	begins, ends, ok := impl.TurtleTwigs(deep+"F", 0.25, 1)
	if !ok || len(begins) != 2 || ends[1] != 1 {
		t.Errorf("TurtleTwigs of deep brackets is %v, %v, %v", begins, ends, ok)
	}
	begins, ends, ok = impl.TurtleTwigs(strings.Repeat("[F]", 256)+strings.Repeat("[]", 1616), 0, 3)
	wantTwigs(t, "TurtleTwigs of 256 moves", begins, ends, ok, make([]complex64, 256), repeated(complex64(3), 256))
	for _, word := range []string{strings.Repeat("[F]", 257), strings.Repeat("F", 257), strings.Repeat("G", 4000)} {
		begins, ends, ok := impl.TurtleTwigs(word, 0, 1)
		wantNoList(t, "TurtleTwigs of too many moves", begins, ok)
		wantNoList(t, "TurtleTwigs of too many moves", ends, ok)
	}
}

func TestTurtleTwigsFails(t *testing.T) {
	fails := func(what, word string, turn, step float32) {
		t.Helper()
		begins, ends, ok := impl.TurtleTwigs(word, turn, step)
		wantNoList(t, "TurtleTwigs "+what, begins, ok)
		wantNoList(t, "TurtleTwigs "+what, ends, ok)
	}
	for _, word := range wrongWordTexts() {
		fails("of no word", word, 0.25, 1)
	}
	for _, word := range []string{"F]", "]", "][", "F[F]]F", "[[F]]]", "[]]["} {
		fails("with nothing to go back to", word, 0.25, 1)
	}
	for _, word := range []string{"[", "F[", "[F", "[[F]", "F[F]F[", strings.Repeat("[", 4000)} {
		fails("with brackets that are left", word, 0.25, 1)
	}
	for _, x := range endlessNumbers() {
		for _, word := range []string{"", "F", "[+F]"} {
			fails("with a wrong turn", word, x, 1)
			fails("with a wrong step", word, 0.25, x)
		}
	}
	fails("to the end of numbers", "FF", 0, mostNumber)
	fails("to the end of numbers in brackets", "F[F]", 0, -mostNumber)
	fails("with a turn that is not finite", "[++F]", mostNumber, 1)
}

// TestTwigsWithoutBracketsAreALine compares both turtles.
func TestTwigsWithoutBracketsAreALine(t *testing.T) {
	for times := range int64(8) {
		word, _ := impl.Rewrite(impl.DragonGrammar(), times)
		points, ok := impl.TurtleLine(word, 0.23, 0.7)
		if long, _ := impl.LongAfter(impl.DragonGrammar(), times); !ok || int64(len(points)) != long+1 {
			t.Fatalf("a dragon has %d points, and not %d", len(points), long+1)
		}
		begins, ends, ok := impl.TurtleTwigs(word, 0.23, 0.7)
		wantTwigs(t, "the twigs of a line", begins, ends, ok, points[:len(points)-1], points[1:])
	}
}
