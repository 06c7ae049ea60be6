package tests

import (
	"slices"
	"strings"
	"testing"

	"loop.example/g01318/impl"
)

func grammarsToTry() []impl.Grammar {
	return append(append(validGrammars(), wrongGrammars()...), manyOthers(), muchOnTheWay())
}

// wordTextsToTry are words and texts that are none.
func wordTextsToTry() []string {
	return append(append(strange(), wrongWordTexts()...), "F+F", "[F]F", "F]", "[", "G[+F-F]A", strings.Repeat("F", 255), strings.Repeat("+F", 2000), strings.Repeat("[F]", 1333))
}

// linesToTry are points, and lists that are none.
func linesToTry() [][]complex64 {
	list := append(lists(smallOnes()), lists(spreadOver(3, 40))...)
	list = append(list, lists(complexSpecials())...)
	for _, points := range wrongLines()[:9] {
		list = append(list, points)
	}
	return append(list, line(bay), []complex64{1, 1, 1}, zigzag(64), spreadComplex(12), []complex64{0, complex(mostNumber, 0), complex(-mostNumber, 1)})
}

// someEnds are ends of lines, finite ones and others.
func someEnds() []complex64 {
	return []complex64{0, complex(minusZero, leastNumber), 1, complex(-2.5, 3), complex(mostNumber, -mostNumber), complex(inf, 1), complex(0, nan)}
}

func callsOnGrammars() []call {
	grammars := grammarsToTry()
	calls := on("ValidGrammar", grammars, impl.ValidGrammar)
	calls = append(calls, on("IsWord", wordTextsToTry(), impl.IsWord)...)
	calls = append(calls, on("SameGrammar", pairsOf(grammars), split(impl.SameGrammar))...)
	for _, g := range grammars {
		rules := append(wrongRules(), rule("A", ""), rule("F", "FF"), rule("Z", "[Z]"))
		calls = append(calls, onto("PutRule", rules, func(r impl.Rule) (impl.Grammar, bool) { return impl.PutRule(g, r) })...)
		calls = append(calls, onto("RewriteOnce", wordTextsToTry(), func(word string) (string, bool) { return impl.RewriteOnce(g, word) })...)
		calls = append(calls, onto("Rewrite", someCounts(), func(times int64) (string, bool) { return impl.Rewrite(g, times) })...)
		for times := int64(-1); times <= 65; times++ {
			calls = append(calls, call{"LettersAfter", func() []any { l, ok := impl.LettersAfter(g, times); return []any{l, ok} }})
			calls = append(calls, call{"LongAfter", func() []any { n, ok := impl.LongAfter(g, times); return []any{n, ok} }})
		}
	}
	none := []int{0}
	calls = append(calls, on("KochGrammar", none, func(int) impl.Grammar { return impl.KochGrammar() })...)
	calls = append(calls, on("DragonGrammar", none, func(int) impl.Grammar { return impl.DragonGrammar() })...)
	return append(calls, on("BushGrammar", none, func(int) impl.Grammar { return impl.BushGrammar() })...)
}

func callsOnTurtles() []call {
	var calls []call
	for _, word := range wordTextsToTry() {
		for _, turn := range fewSpecials() {
			calls = append(calls, onto("TurtleLine", fewSpecials(), func(step float32) ([]complex64, bool) { return impl.TurtleLine(word, turn, step) })...)
			for _, step := range fewSpecials() {
				calls = append(calls, call{"TurtleTwigs", func() []any { b, e, ok := impl.TurtleTwigs(word, turn, step); return []any{b, e, ok} }})
			}
		}
	}
	return calls
}

func callsOnLines() []call {
	points := linesToTry()
	calls := onto("LongOfLine", points, impl.LongOfLine)
	calls = append(calls, onto("LoopArea", points, impl.LoopArea)...)
	calls = append(calls, onto("CrossingsOf", points, impl.CrossingsOf)...)
	for _, some := range points {
		calls = append(calls, call{"SpanOf", func() []any { l, h, ok := impl.SpanOf(some); return []any{l, h, ok} }})
		calls = append(calls, onto("EvenPoints", someCounts(), func(n int64) ([]complex64, bool) { return impl.EvenPoints(some, n) })...)
		calls = append(calls, onto("SimpleCoast", specials(), func(x float32) ([]complex64, bool) { return impl.SimpleCoast(some, x) })...)
		calls = append(calls, onto("MoveLine", someEnds(), func(z complex64) ([]complex64, bool) { return impl.MoveLine(some, z) })...)
		calls = append(calls, onto("FitLine", pairsOf(someEnds()), func(p pair[complex64]) ([]complex64, bool) { return impl.FitLine(some, p.one, p.two) })...)
		calls = append(calls, onto("TurnLine", pairsOf(fewSpecials()), func(p pair[float32]) ([]complex64, bool) { return impl.TurnLine(some, p.one, p.two) })...)
		for _, p := range pairsOf(someEnds()) {
			calls = append(calls, call{"FarthestFrom", func() []any { i, x, ok := impl.FarthestFrom(some, p.one, p.two); return []any{i, x, ok} }})
		}
		for _, rough := range fewSpecials() {
			for _, seed := range someCounts() {
				calls = append(calls, call{"BreakCoast", func() []any { l, s, ok := impl.BreakCoast(some, rough, seed); return []any{l, s, ok} }})
			}
		}
	}
	return calls
}

func callsOnEnds() []call {
	var calls []call
	pairs := pairsOf(someEnds())
	for _, p := range pairs {
		calls = append(calls, on("DoLinesCross", pairs, func(q pair[complex64]) bool { return impl.DoLinesCross(p.one, p.two, q.one, q.two) })...)
		for _, n := range someCounts() {
			calls = append(calls, call{"CoastBetween", func() []any { l, s, ok := impl.CoastBetween(p.one, p.two, n, 0.5, 9); return []any{l, s, ok} }})
			calls = append(calls, call{"CoastBetween", func() []any { l, s, ok := impl.CoastBetween(p.one, p.two, 7, 0.5, n); return []any{l, s, ok} }})
		}
		for _, rough := range specials() {
			calls = append(calls, call{"CoastBetween", func() []any { l, s, ok := impl.CoastBetween(p.one, p.two, 7, rough, 9); return []any{l, s, ok} }})
		}
	}
	return calls
}

// TestLinesDependOnArgumentsOnly calls every function of chapter 4 with whatever there is.
func TestLinesDependOnArgumentsOnly(t *testing.T) {
	wantAgain(t, callsOnGrammars())
	wantAgain(t, callsOnTurtles())
	wantAgain(t, callsOnLines())
	wantAgain(t, callsOnEnds())
}

func sameRule(a, b impl.Rule) bool { return a == b }

func TestArgumentsOfLinesStay(t *testing.T) {
	rules := keep([]impl.Rule{rule("C", "F[C]"), rule("F", "FF"), rule("X", "")}, rule("Q", "77"))
	g := impl.Grammar{Start: "FXC", Rules: rules.list}
	impl.ValidGrammar(g)
	impl.SameGrammar(g, g)
	for _, letter := range []string{"A", "C", "D", "F", "X", "Z"} {
		if _, ok := impl.PutRule(g, rule(letter, "+-")); !ok {
			t.Error("PutRule fails")
		}
	}
	impl.RewriteOnce(g, "CFX")
	impl.Rewrite(g, 3)
	impl.LettersAfter(g, 5)
	impl.LongAfter(g, 5)
	wantUntouched(t, "a function of grammars", rules.list, sameRule, rules.was)

	points := keep([]complex64{1, complex(minusZero, 2), complex(-1, leastNumber), 0.5, complex(3, -1)}, 77)
	if _, _, ok := impl.SpanOf(points.list); !ok {
		t.Error("the points are none")
	}
	impl.LongOfLine(points.list)
	impl.LoopArea(points.list)
	impl.MoveLine(points.list, 5)
	impl.TurnLine(points.list, 0.3, 2)
	impl.FitLine(points.list, 0, 1)
	impl.BreakCoast(points.list, 0.5, 5)
	impl.SimpleCoast(points.list, 0)
	impl.SimpleCoast(points.list, 9)
	impl.FarthestFrom(points.list, 0, 1)
	impl.CrossingsOf(points.list)
	impl.EvenPoints(points.list, 7)
	wantUntouched(t, "a function of points", points.list, sameParts, points.was)
}

func TestListsOfLinesAreNew(t *testing.T) {
	points := []complex64{1, 2i, 3}
	wantKeptApart(t, "LettersAfter", func() []int64 { l, _ := impl.LettersAfter(impl.KochGrammar(), 3); return l })
	wantKeptApart(t, "TurtleLine", func() []complex64 { l, _ := impl.TurtleLine("FF", 0, 1); return l })
	wantKeptApart(t, "begins of TurtleTwigs", func() []complex64 { l, _, _ := impl.TurtleTwigs("FF", 0, 1); return l })
	wantKeptApart(t, "ends of TurtleTwigs", func() []complex64 { _, l, _ := impl.TurtleTwigs("FF", 0, 1); return l })
	wantKeptApart(t, "MoveLine", func() []complex64 { l, _ := impl.MoveLine(points, 0); return l })
	wantKeptApart(t, "TurnLine", func() []complex64 { l, _ := impl.TurnLine(points, 0, 1); return l })
	wantKeptApart(t, "FitLine", func() []complex64 { l, _ := impl.FitLine(points, 1, 3); return l })
	wantKeptApart(t, "BreakCoast", func() []complex64 { l, _, _ := impl.BreakCoast(points, 0, 1); return l })
	wantKeptApart(t, "BreakCoast of one point", func() []complex64 { l, _, _ := impl.BreakCoast(points[:1], 0, 1); return l })
	wantKeptApart(t, "CoastBetween", func() []complex64 { l, _, _ := impl.CoastBetween(1, 2, 0, 0, 1); return l })
	wantKeptApart(t, "SimpleCoast", func() []complex64 { l, _ := impl.SimpleCoast(points, 0); return l })
	wantKeptApart(t, "EvenPoints", func() []complex64 { l, _ := impl.EvenPoints(points, 4); return l })
	for _, build := range []func() impl.Grammar{impl.KochGrammar, impl.DragonGrammar, impl.BushGrammar} {
		wantKeptApart(t, "a named grammar", func() []impl.Rule { return build().Rules })
	}
	g := impl.DragonGrammar()
	for _, letter := range []string{"A", "X", "Z"} {
		wantKeptApart(t, "PutRule", func() []impl.Rule { put, _ := impl.PutRule(g, rule(letter, "F")); return put.Rules })
	}
	if !slices.Equal(points, []complex64{1, 2i, 3}) || !impl.SameGrammar(g, impl.DragonGrammar()) {
		t.Error("a result shares memory with an argument")
	}
}

// TestTwigsShareNoMemory overwrites the begins, with what is behind them.
func TestTwigsShareNoMemory(t *testing.T) {
	begins, ends, _ := impl.TurtleTwigs("FFFFF", 0, 1)
	for i := range begins[:cap(begins)] {
		begins[:cap(begins)][i] = 77
	}
	wantList(t, "the ends beside begins that are overwritten", ends, true, []complex64{1, 2, 3, 4, 5})
}
