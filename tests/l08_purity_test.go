package tests

import (
	"strings"
	"testing"

	"loop.example/g01318/impl"
)

// desksToTry are desks, and such that are none.
func desksToTry() []impl.Desk {
	list := append(validDesks(), impl.Desk{Points: spreadComplex(300)})
	for i, d := range wrongDesks() {
		if i%7 == 0 {
			list = append(list, d)
		}
	}
	return list
}

// textsOfDesks are texts of parts, lines, scripts, outputs and journals, and others.
func textsOfDesks() []string {
	list := append(strange(), someLines()...)
	for _, r := range toldLines() {
		list = append(list, r.line, r.output, strings.TrimPrefix(r.line, "map "))
	}
	for _, r := range journalRows() {
		list = append(list, r.journal, r.journal+"x", scriptOf(r.lines))
	}
	for _, f := range lineForms() {
		list = append(list, lineOfWords(f, wordsOfForm(f)), lineOfWords(f, make([]string, len(f.kinds))))
	}
	return append(list, scriptOf(someLines()), journalBehind(0, someLines()...), strings.Repeat("\n", 16000), strings.Repeat("no\n", 5000), strings.Repeat("0 \n", 5333))
}

func callsOnDesks() []call {
	desks := desksToTry()
	calls := on("ValidDesk", desks, impl.ValidDesk)
	calls = append(calls, on("SameDesk", pairsOf(desks), split(impl.SameDesk))...)
	for _, d := range []impl.Desk{impl.NewDesk(), desks[len(desks)-1], desks[9], {}} {
		for _, text := range textsOfDesks() {
			calls = append(calls, call{"DeskCommand", func() []any { d, s, ok := impl.DeskCommand(d, text); return []any{d, s, ok} }})
			calls = append(calls, call{"RunDesk", func() []any { d, s, ok := impl.RunDesk(d, text); return []any{d, s, ok} }})
			calls = append(calls, call{"RunJournal", func() []any { d, n, ok := impl.RunJournal(d, text); return []any{d, n, ok} }})
		}
	}
	for _, d := range desks {
		for _, line := range someLines() {
			calls = append(calls, call{"DeskCommand", func() []any { d, s, ok := impl.DeskCommand(d, line); return []any{d, s, ok} }})
		}
	}
	return append(calls, call{"NewDesk", func() []any { return []any{impl.NewDesk()} }})
}

func callsOnTextsOfDesks() []call {
	texts := textsOfDesks()
	calls := onto("MapText", mapsToTry(), impl.MapText)
	calls = append(calls, onto("ViewText", viewsToTry(), impl.ViewText)...)
	calls = append(calls, onto("GrammarText", grammarsToTry(), impl.GrammarText)...)
	calls = append(calls, onto("ReadMap", texts, impl.ReadMap)...)
	calls = append(calls, onto("ReadView", texts, impl.ReadView)...)
	calls = append(calls, onto("ReadGrammar", texts, impl.ReadGrammar)...)
	calls = append(calls, onto("JournalOf", [][]string{nil, {}, {""}, texts, someLines(), strange(), repeated("", 100000)}, impl.JournalOf)...)
	for _, text := range texts {
		calls = append(calls, call{"CountOutputs", func() []any { bad, good, ok := impl.CountOutputs(text); return []any{bad, good, ok} }})
		calls = append(calls, call{"RecoverJournal", func() []any { l, n, ok := impl.RecoverJournal(text); return []any{l, n, ok} }})
		calls = append(calls, onto("JournalOf", [][]string{{text}, {"map", text}, {text, text}}, impl.JournalOf)...)
	}
	return calls
}

// TestDesksDependOnArgumentsOnly calls every function of chapter 8 with whatever there is.
func TestDesksDependOnArgumentsOnly(t *testing.T) {
	wantAgain(t, callsOnDesks())
	wantAgain(t, callsOnTextsOfDesks())
}

func sameRules(a, b impl.Rule) bool { return a == b }

func sameLines(a, b string) bool { return a == b }

func TestArgumentsOfDesksStay(t *testing.T) {
	points := keep([]complex64{1, complex(minusZero, 2), -1, 0.5, 2i, 0.125 - 3i}, 77)
	rules := keep([]impl.Rule{rule("F", "FF+F"), rule("X", "F")}, rule("Z", "F"))
	lines := keep(someLines(), "map")
	d := impl.Desk{Map: square(-1), View: aView, Grammar: impl.Grammar{Start: "FX", Rules: rules.list}, Points: points.list}
	wantBool(t, "ValidDesk", impl.ValidDesk(d), true)
	impl.SameDesk(d, d)
	if text, ok := impl.GrammarText(d.Grammar); !ok || text != "FX;F=FF+F/X=F" {
		t.Error("GrammarText fails")
	}
	for _, f := range lineForms() {
		impl.DeskCommand(d, lineOfWords(f, wordsOfForm(f)))
	}
	for _, line := range append(someLines(), "points 7f80000000000000", "grammar F;f=", "fit 3f80000000000000 0000000000000000", "simple 3f000000") {
		impl.DeskCommand(d, line)
		impl.RunDesk(d, line+"\n"+line+"\n")
		impl.RunJournal(d, journalBehind(0, line, line))
	}
	if _, ok := impl.JournalOf(lines.list); !ok {
		t.Error("JournalOf fails")
	}
	wantUntouched(t, "a function of a desk", points.list, sameParts, points.was)
	wantUntouched(t, "a function of a desk", rules.list, sameRules, rules.was)
	wantUntouched(t, "JournalOf", lines.list, sameLines, lines.was)
}

// TestListsOfDesksAreNew overwrites the lists of desks that are returned.
func TestListsOfDesksAreNew(t *testing.T) {
	d := impl.Desk{Map: square(-1), View: aView, Grammar: grammar("F", rule("A", "F"), rule("F", "FA")), Points: []complex64{1, 2, 3i}}
	builds := map[string]func() impl.Desk{
		"NewDesk":                func() impl.Desk { return impl.NewDesk() },
		"RunDesk of nothing":     func() impl.Desk { e, _, _ := impl.RunDesk(d, ""); return e },
		"RunJournal of nothing":  func() impl.Desk { e, _, _ := impl.RunJournal(d, ""); return e },
		"RunDesk":                func() impl.Desk { e, _, _ := impl.RunDesk(d, scriptOf(someLines()[:7])); return e },
		"RunJournal":             func() impl.Desk { e, _, _ := impl.RunJournal(d, journalBehind(0, someLines()[:7]...)); return e },
		"RunDesk of no other":    func() impl.Desk { e, _, _ := impl.RunDesk(d, "map\nwhat\nlong x\n"); return e },
		"RunJournal of no other": func() impl.Desk { e, _, _ := impl.RunJournal(d, journalBehind(0, "map", "what", "long x")); return e },
	}
	for _, line := range append(someLines(), "points 7f80000000000000", "grammar F;f=", "fit 3f80000000000000 0000000000000000", "simple 3f000000", "points 0000000000000000", "draw 1 3e800000 3f800000") {
		builds["DeskCommand "+line] = func() impl.Desk { e, _, _ := impl.DeskCommand(d, line); return e }
	}
	for what, build := range builds {
		wantKeptApart(t, what, func() []complex64 { return build().Points })
		wantKeptApart(t, what, func() []impl.Rule { return build().Grammar.Rules })
	}
	wantKeptApart(t, "ReadGrammar", func() []impl.Rule { g, _ := impl.ReadGrammar("F;A=F/B=FF"); return g.Rules })
	wantKeptApart(t, "RecoverJournal", func() []string { l, _, _ := impl.RecoverJournal("20171 map\n11238 points\n"); return l })
	same := impl.Desk{Map: square(-1), View: aView, Grammar: grammar("F", rule("A", "F"), rule("F", "FA")), Points: []complex64{1, 2, 3i}}
	wantDesk(t, "a desk behind results that are overwritten", d, true, same)
}
