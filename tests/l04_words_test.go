package tests

import (
	"slices"
	"strings"
	"testing"

	"loop.example/g01318/impl"
)

func TestLimitsOfChapter4(t *testing.T) {
	if impl.MaxRules != 8 || impl.MaxLetters != 4000 || impl.MaxLong != 1000000000000 {
		t.Error("a limit of chapter 4 is not as told")
	}
}

const wordLetters = "ABCDEFGHIJKLMNOPQRSTUVWXYZ+-[]"

func TestIsWord(t *testing.T) {
	for b := range 256 {
		letter := string([]byte{byte(b)})
		isLetter := strings.Contains(wordLetters, letter)
		wantBool(t, "IsWord of one byte", impl.IsWord(letter), isLetter)
		wantBool(t, "IsWord with a byte at the beginning", impl.IsWord(letter+"F"), isLetter)
		wantBool(t, "IsWord with a byte at the end", impl.IsWord("+F"+letter), isLetter)
		wantBool(t, "IsWord with a byte as the last letter", impl.IsWord(strings.Repeat("F", 3999)+letter), isLetter)
	}
	for _, word := range []string{"", wordLetters, "]]][", "F[+F", strings.Repeat("-", 4000)} {
		wantBool(t, "IsWord of a word", impl.IsWord(word), true)
	}
	for _, text := range []string{
		"f", "F F", "F\n", "F\x00", "\u0391", "F\u00c4", "\uff26", "\U0001d405", "F\xff", "\xc6", strings.Repeat("F", 4001), strings.Repeat("F", 100000), strings.Repeat("\u00c4", 2000),
	} {
		wantBool(t, "IsWord of another text", impl.IsWord(text), false)
	}
}

func grammar(start string, rules ...impl.Rule) impl.Grammar {
	return impl.Grammar{Start: start, Rules: rules}
}

func rule(letter, text string) impl.Rule {
	return impl.Rule{Letter: letter, Text: text}
}

// mostRules has as many rules as there can be, each with the longest Text.
func mostRules() impl.Grammar {
	g := grammar(strings.Repeat("Z", 32))
	for _, letter := range strings.Split("ACEGIKMZ", "") {
		g.Rules = append(g.Rules, rule(letter, strings.Repeat(letter, 32)))
	}
	return g
}

func validGrammars() []impl.Grammar {
	return []impl.Grammar{
		{}, grammar(""), grammar(wordLetters), grammar("F", rule("A", "")), grammar("[", rule("Z", "]")),
		grammar("F", rule("A", wordLetters+"AA"), rule("B", "F"), rule("Z", "B")), mostRules(),
		impl.KochGrammar(), impl.DragonGrammar(), impl.BushGrammar(),
	}
}

// wrongRules are no rules on their own.
func wrongRules() []impl.Rule {
	list := []impl.Rule{
		{}, rule("", "F"), rule("FF", "F"), rule("AB", ""), rule("\u00c4", "F"), rule("\xc1", "F"), rule("F", "f"), rule("F", "F F"), rule("F", "\u00c4"),
		rule("F", strings.Repeat("F", 33)), rule("F", strings.Repeat("F", 4001)),
	}
	for _, letter := range []string{"a", "z", "f", "@", "[", "]", "+", "-", "0", " ", "\x00", "`", "{", "\\"} {
		list = append(list, rule(letter, "F"))
	}
	return list
}

func wrongGrammars() []impl.Grammar {
	list := []impl.Grammar{
		grammar("f"), grammar("F "), grammar(strings.Repeat("F", 33)), grammar(strings.Repeat("F", 4001)), grammar("\xff", rule("F", "F")),
		grammar("F", rule("F", "F"), rule("F", "F")), grammar("F", rule("G", "F"), rule("F", "F")), grammar("F", rule("A", "F"), rule("C", "F"), rule("B", "F")),
		grammar("F", append(mostRules().Rules[:7:7], rule("N", ""), rule("Z", ""))...),
	}
	for _, r := range wrongRules() {
		list = append(list, grammar("F", r), grammar("F", r, rule("Z", "F")), grammar("F", rule("A", "F"), r))
	}
	return list
}

func TestValidGrammar(t *testing.T) {
	for _, g := range validGrammars() {
		wantBool(t, "ValidGrammar of "+g.Start, impl.ValidGrammar(g), true)
	}
	for _, g := range wrongGrammars() {
		wantBool(t, "ValidGrammar of a wrong one", impl.ValidGrammar(g), false)
	}
}

func TestSameGrammar(t *testing.T) {
	list := append(validGrammars()[1:], wrongGrammars()...)
	list = append(list, grammar("F", rule("A", "B")), grammar("F", rule("A", "C")), grammar("F", rule("B", "B")), grammar("G", rule("A", "B")), grammar("F", rule("ABC", "")))
	for i, a := range list {
		for k, b := range list {
			copied := impl.Grammar{Start: b.Start, Rules: slices.Clone(b.Rules)}
			wantBool(t, "SameGrammar of "+a.Start+" and "+b.Start, impl.SameGrammar(a, copied), i == k)
		}
	}
	wantBool(t, "SameGrammar without rules", impl.SameGrammar(impl.Grammar{}, impl.Grammar{Rules: []impl.Rule{}}), true)
	one, two := grammar("F", rule("A", ""), rule("B", "")), grammar("F", rule("A", ""))
	wantBool(t, "SameGrammar with a rule more", impl.SameGrammar(one, two), false)
	wantBool(t, "SameGrammar with a rule less", impl.SameGrammar(two, one), false)
	wantBool(t, "SameGrammar of other orders", impl.SameGrammar(grammar("", rule("B", ""), rule("A", "")), one), false)
}

func wantGrammar(t *testing.T, what string, got impl.Grammar, ok bool, want impl.Grammar) {
	t.Helper()
	if !ok || got.Start != want.Start || !slices.Equal(got.Rules, want.Rules) {
		t.Errorf("%s: got %v, %v, want %v", what, got, ok, want)
	}
}

func wantNoGrammar(t *testing.T, what string, got impl.Grammar, ok bool) {
	t.Helper()
	if ok || got.Start != "" || got.Rules != nil {
		t.Errorf("%s: got %v, %v, want a failure with a zero value", what, got, ok)
	}
}

func TestNamedGrammars(t *testing.T) {
	wantGrammar(t, "KochGrammar", impl.KochGrammar(), true, grammar("F", rule("F", "F+F--F+F")))
	wantGrammar(t, "DragonGrammar", impl.DragonGrammar(), true, grammar("FX", rule("X", "X+YF+"), rule("Y", "-FX-Y")))
	wantGrammar(t, "BushGrammar", impl.BushGrammar(), true, grammar("F", rule("F", "F[+F]F[-F]F")))
}

func TestPutRule(t *testing.T) {
	three := grammar("FX", rule("C", ""), rule("F", "FF"), rule("X", "[X]"))
	long := strings.Repeat("+", 32)
	rows := []struct {
		g    impl.Grammar
		r    impl.Rule
		want impl.Grammar
	}{
		{impl.Grammar{}, rule("F", ""), grammar("", rule("F", ""))},
		{three, rule("A", long), grammar("FX", rule("A", long), rule("C", ""), rule("F", "FF"), rule("X", "[X]"))},
		{three, rule("C", "C"), grammar("FX", rule("C", "C"), rule("F", "FF"), rule("X", "[X]"))},
		{three, rule("D", "F"), grammar("FX", rule("C", ""), rule("D", "F"), rule("F", "FF"), rule("X", "[X]"))},
		{three, rule("F", ""), grammar("FX", rule("C", ""), rule("F", ""), rule("X", "[X]"))},
		{three, rule("G", "G"), grammar("FX", rule("C", ""), rule("F", "FF"), rule("G", "G"), rule("X", "[X]"))},
		{three, rule("X", "Y"), grammar("FX", rule("C", ""), rule("F", "FF"), rule("X", "Y"))},
		{three, rule("Z", "A"), grammar("FX", rule("C", ""), rule("F", "FF"), rule("X", "[X]"), rule("Z", "A"))},
		{three, rule("F", "FF"), three},
	}
	for _, r := range rows {
		got, ok := impl.PutRule(r.g, r.r)
		wantGrammar(t, "PutRule "+r.r.Letter, got, ok, r.want)
	}
	most := mostRules()
	for i, r := range most.Rules {
		want := mostRules()
		want.Rules[i].Text = "F"
		got, ok := impl.PutRule(most, rule(r.Letter, "F"))
		wantGrammar(t, "PutRule in place of one of many", got, ok, want)
	}
	less := impl.Grammar{Start: most.Start, Rules: most.Rules[:7:7]}
	got, ok := impl.PutRule(less, most.Rules[7])
	wantGrammar(t, "PutRule as the last one", got, ok, most)
}

func TestPutRuleFails(t *testing.T) {
	for _, letter := range []string{"B", "D", "N", "Y"} {
		got, ok := impl.PutRule(mostRules(), rule(letter, ""))
		wantNoGrammar(t, "PutRule beside the most rules", got, ok)
	}
	for _, g := range wrongGrammars() {
		got, ok := impl.PutRule(g, rule("F", "F"))
		wantNoGrammar(t, "PutRule to a wrong grammar", got, ok)
	}
	for _, r := range wrongRules() {
		got, ok := impl.PutRule(impl.KochGrammar(), r)
		wantNoGrammar(t, "PutRule of a wrong rule", got, ok)
	}
}

func TestRewriteOnce(t *testing.T) {
	double := grammar("F", rule("F", "FF"))
	rows := []struct {
		g       impl.Grammar
		t, want string
	}{
		{impl.KochGrammar(), "F", "F+F--F+F"},
		{impl.KochGrammar(), "F-F", "F+F--F+F-F+F--F+F"},
		{impl.DragonGrammar(), "FX+YF+", "FX+YF++-FX-YF+"},
		{impl.BushGrammar(), "[F]", "[F[+F]F[-F]F]"},
		// Letters without a rule stay, and those that come are not replaced.
		{impl.KochGrammar(), "+-[]AXGZ", "+-[]AXGZ"},
		{grammar("", rule("A", "B"), rule("B", "A")), "ABBA", "BAAB"},
		{grammar("", rule("A", "BC"), rule("B", "CA"), rule("C", "AB")), "CAB", "ABBCCA"},
		{grammar("", rule("A", "]["), rule("Z", "")), "ZA[Z]ZAZ", "][[]]["},
		{grammar("", rule("F", "")), strings.Repeat("F", 4000), ""},
		{impl.Grammar{}, wordLetters, wordLetters},
		{mostRules(), "", ""},
		{mostRules(), "B", "B"},
		// The longest words.
		{double, strings.Repeat("F", 2000), strings.Repeat("F", 4000)},
		{double, strings.Repeat("F", 1999) + "+-", strings.Repeat("F", 3998) + "+-"},
		{grammar("", rule("F", "FF"), rule("X", "")), strings.Repeat("FX", 2000), strings.Repeat("F", 4000)},
		{impl.Grammar{}, strings.Repeat("]", 4000), strings.Repeat("]", 4000)},
	}
	for _, r := range rows {
		got, ok := impl.RewriteOnce(r.g, r.t)
		wantText(t, "RewriteOnce "+r.t, got, ok, r.want)
	}
}

func TestRewriteOnceFails(t *testing.T) {
	fails := func(g impl.Grammar, word string) {
		t.Helper()
		got, ok := impl.RewriteOnce(g, word)
		wantNone(t, "RewriteOnce of no word", got, ok)
	}
	double := grammar("F", rule("F", "FF"), rule("X", ""))
	fails(double, strings.Repeat("F", 2001))
	fails(double, strings.Repeat("F", 2000)+"-")
	fails(double, "-"+strings.Repeat("F", 2000))
	fails(double, strings.Repeat("F", 2001)+strings.Repeat("X", 1999))
	fails(double, strings.Repeat("F", 4000))
	fails(mostRules(), strings.Repeat("Z", 4000))
	// What is no word stays none, even if it would become one.
	fails(grammar("", rule("F", "")), strings.Repeat("F", 4001))
	for _, text := range []string{"f", "F F", "\u00c4", "F\xff", "", " "} {
		if text != "" {
			fails(impl.KochGrammar(), text)
		}
		for _, g := range wrongGrammars() {
			fails(g, text)
		}
	}
}

func TestRewrite(t *testing.T) {
	rows := []struct {
		g     impl.Grammar
		times int64
		want  string
	}{
		{impl.DragonGrammar(), 0, "FX"},
		{impl.DragonGrammar(), 1, "FX+YF+"},
		{impl.DragonGrammar(), 2, "FX+YF++-FX-YF+"},
		{impl.DragonGrammar(), 3, "FX+YF++-FX-YF++-FX+YF+--FX-YF+"},
		{impl.KochGrammar(), 2, "F+F--F+F+F+F--F+F--F+F--F+F+F+F--F+F"},
		{impl.BushGrammar(), 1, "F[+F]F[-F]F"},
		{grammar(""), 16, ""},
		{grammar("F[G]"), 16, "F[G]"},
		{grammar("A", rule("A", "AB"), rule("B", "-")), 16, "AB" + strings.Repeat("-", 15)},
		{grammar("A", rule("A", "B"), rule("B", "C"), rule("C", "A")), 16, "B"},
		{grammar("A", rule("A", "")), 1, ""},
		{grammar("A", rule("A", "")), 16, ""},
		// 5 times 5 times 5 times 32 letters.
		{grammar("AAAAA", rule("A", "BBBBB"), rule("B", "CCCCC"), rule("C", strings.Repeat("D", 32))), 3, strings.Repeat("D", 4000)},
		{grammar("AAAAA", rule("A", "BBBBB"), rule("B", "CCCCC"), rule("C", strings.Repeat("D", 32)), rule("D", "")), 4, ""},
		{grammar("F", rule("F", "FF")), 11, strings.Repeat("F", 2048)},
	}
	for _, r := range rows {
		got, ok := impl.Rewrite(r.g, r.times)
		wantText(t, "Rewrite "+r.g.Start, got, ok, r.want)
	}
}

// TestRewriteIsRewriteOnceAgain compares both for as long as there are words.
func TestRewriteIsRewriteOnceAgain(t *testing.T) {
	for _, g := range validGrammars() {
		word, isWord := g.Start, true
		for times := range int64(17) {
			got, ok := impl.Rewrite(g, times)
			wantBool(t, "Rewrite has a word", ok, isWord)
			if got != word {
				t.Errorf("Rewrite %s %d times is %s, and not %s", g.Start, times, got, word)
			}
			if isWord {
				word, isWord = impl.RewriteOnce(g, word)
			}
		}
	}
}

func TestRewriteFails(t *testing.T) {
	fails := func(what string, g impl.Grammar, times int64) {
		t.Helper()
		got, ok := impl.Rewrite(g, times)
		wantNone(t, what, got, ok)
	}
	for _, times := range []int64{-1, 17, 64, 1 << 62, -1 << 63} {
		fails("Rewrite with wrong times", impl.KochGrammar(), times)
		fails("Rewrite nothing with wrong times", impl.Grammar{}, times)
	}
	for _, g := range wrongGrammars() {
		fails("Rewrite of a wrong grammar", g, 0)
		fails("Rewrite of a wrong grammar", g, 1)
	}
	fails("Rewrite a long coast", impl.KochGrammar(), 9)
	fails("Rewrite to more than 4000 letters", grammar("F", rule("F", "FF")), 12)
	fails("Rewrite to more than 4000 letters", grammar("F", rule("F", "FF")), 16)
	// One letter too many, which would not stay: a word on the way is none.
	over := grammar("AAAAAE", rule("A", "BBBBB"), rule("B", "CCCCC"), rule("C", strings.Repeat("D", 32)), rule("D", ""))
	for times := int64(3); times <= 16; times++ {
		fails("Rewrite by a long word", over, times)
	}
}

// counted returns 27 counts, given by letters.
func counted(counts map[string]int64) []int64 {
	list := make([]int64, 27)
	for letter, count := range counts {
		list[strings.Index(wordLetters[:27], letter)] = count
	}
	return list
}

// manyOthers becomes 16 times 16 times 16 times 25 to the power of 6, which is MaxLong, letters that are not A to Z.
func manyOthers() impl.Grammar {
	text := func(letter string, count int) string { return strings.Repeat(letter, count) }
	return grammar(text("A", 16),
		rule("A", text("B", 16)), rule("B", text("C", 16)), rule("C", text("D", 25)), rule("D", text("E", 25)), rule("E", text("G", 25)),
		rule("G", text("H", 25)), rule("H", text("I", 25)), rule("I", text("+-[]-", 5)))
}

// muchOnTheWay becomes 32 to the power of 8, more than MaxLong, letters, and then none.
func muchOnTheWay() impl.Grammar {
	g := grammar(strings.Repeat("A", 32))
	for i := range 7 {
		g.Rules = append(g.Rules, rule(wordLetters[i:i+1], strings.Repeat(wordLetters[i+1:i+2], 32)))
	}
	g.Rules = append(g.Rules, rule("H", ""))
	return g
}

func TestLettersAfter(t *testing.T) {
	tens := grammar("F", rule("F", "FFFFFFFFFF"))
	rows := []struct {
		g      impl.Grammar
		times  int64
		counts map[string]int64
	}{
		{impl.Grammar{}, 0, nil},
		{impl.Grammar{}, 64, nil},
		{grammar(wordLetters[26:] + "AAZ"), 64, map[string]int64{"A": 2, "Z": 1, "+": 4}},
		{impl.BushGrammar(), 1, map[string]int64{"F": 5, "+": 6}},
		{impl.BushGrammar(), 2, map[string]int64{"F": 25, "+": 36}},
		{impl.DragonGrammar(), 2, map[string]int64{"F": 4, "X": 2, "Y": 2, "+": 6}},
		{impl.DragonGrammar(), 38, map[string]int64{"F": 1 << 38, "X": 1 << 37, "Y": 1 << 37, "+": 1<<39 - 2}},
		// Letters without a rule stay, and letters that come are not counted twice.
		{grammar("AB", rule("A", "B"), rule("B", "A")), 63, map[string]int64{"A": 1, "B": 1}},
		{grammar("AAB", rule("A", "B"), rule("B", "A")), 63, map[string]int64{"A": 1, "B": 2}},
		{grammar("AAB", rule("A", "BC"), rule("B", "")), 1, map[string]int64{"B": 2, "C": 2}},
		{grammar("AAB", rule("A", "BC"), rule("B", "")), 2, map[string]int64{"C": 2}},
		{grammar("A", rule("A", "AB[")), 64, map[string]int64{"A": 1, "B": 64, "+": 64}},
		{grammar("FA", rule("F", "")), 3, map[string]int64{"A": 1}},
		{grammar("AB", rule("A", "AA"), rule("B", "BBB")), 10, map[string]int64{"A": 1 << 10, "B": 59049}},
		{tens, 12, map[string]int64{"F": impl.MaxLong}},
		{manyOthers(), 7, map[string]int64{"I": 40000000000}},
		{manyOthers(), 8, map[string]int64{"+": impl.MaxLong}},
		{manyOthers(), 64, map[string]int64{"+": impl.MaxLong}},
		{muchOnTheWay(), 6, map[string]int64{"G": 1 << 35}},
	}
	for _, r := range rows {
		got, ok := impl.LettersAfter(r.g, r.times)
		wantIntegers(t, "LettersAfter "+r.g.Start, got, ok, counted(r.counts))
		long, ok := impl.LongAfter(r.g, r.times)
		wantInteger(t, "LongAfter "+r.g.Start, long, ok, r.counts["F"])
	}
}

func TestLettersAfterFails(t *testing.T) {
	fails := func(what string, g impl.Grammar, times int64) {
		t.Helper()
		letters, ok := impl.LettersAfter(g, times)
		wantNoList(t, "LettersAfter "+what, letters, ok)
		long, ok := impl.LongAfter(g, times)
		wantNone(t, "LongAfter "+what, long, ok)
	}
	for _, times := range []int64{-1, 65, 1 << 62, -1 << 63} {
		fails("wrong times", impl.Grammar{}, times)
		fails("wrong times", impl.KochGrammar(), times)
	}
	for _, g := range wrongGrammars() {
		fails("a wrong grammar", g, 0)
		fails("a wrong grammar", g, 3)
	}
	fails("too many times", impl.KochGrammar(), 20)
	fails("too many times", impl.KochGrammar(), 64)
	// Letters that are not F can be too many, and those that are not A to Z together.
	fails("too many letters", grammar("AF", rule("A", "AAAAAAAAAA")), 13)
	fails("too many others", impl.DragonGrammar(), 39)
	for _, letter := range []string{"+", "-", "[", "]"} {
		more := manyOthers()
		more.Start += letter
		fails("one other too many", more, 8)
		letters, ok := impl.LettersAfter(more, 7)
		wantIntegers(t, "LettersAfter with one more", letters, ok, counted(map[string]int64{"I": 40000000000, "+": 1}))
	}
	for times := int64(7); times <= 64; times++ {
		fails("too many on the way", muchOnTheWay(), times)
	}
}

func TestLongAfter(t *testing.T) {
	for times, want := range []int64{1, 2, 4, 8, 16, 32} {
		long, ok := impl.LongAfter(impl.DragonGrammar(), int64(times))
		wantInteger(t, "LongAfter of the dragon", long, ok, want)
	}
	long, ok := impl.LongAfter(impl.KochGrammar(), 19)
	wantInteger(t, "LongAfter of a coast", long, ok, 1<<38)
	long, ok = impl.LongAfter(grammar("FGF", rule("G", "GF")), 5)
	wantInteger(t, "LongAfter with other moves", long, ok, 7)
}

// TestLettersAreCountedBeforeTheyAreWritten holds promise 5: what is counted is what is written.
func TestLettersAreCountedBeforeTheyAreWritten(t *testing.T) {
	grammars := append(validGrammars(), manyOthers(), muchOnTheWay(),
		grammar("AFZ-", rule("A", "B[A]C"), rule("B", "F+B"), rule("C", ""), rule("Z", "ZZA")),
		grammar("[X]Y", rule("F", "X"), rule("X", "YF"), rule("Y", "-G+")))
	for _, g := range grammars {
		for times := range int64(17) {
			word, ok := impl.Rewrite(g, times)
			if !ok {
				break
			}
			want := make([]int64, 27)
			for _, letter := range []byte(word) {
				want[min(strings.IndexByte(wordLetters, letter), 26)]++
			}
			letters, ok := impl.LettersAfter(g, times)
			wantIntegers(t, "LettersAfter and Rewrite", letters, ok, want)
			long, ok := impl.LongAfter(g, times)
			wantInteger(t, "LongAfter and Rewrite", long, ok, int64(strings.Count(word, "F")))
		}
	}
}
