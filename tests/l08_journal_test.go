package tests

import (
	"slices"
	"strconv"
	"strings"
	"testing"

	"loop.example/g01318/impl"
)

// checkBehind returns the check number of a text, made without the program.
func checkBehind(check int, text string) int {
	for _, b := range []byte(text) {
		check = (857*check + int(b) + 149) % 65003
	}
	return check
}

// journalBehind returns the journal of lines behind a check number, made
// without the program, with no limit.
func journalBehind(check int, lines ...string) string {
	var journal strings.Builder
	for _, line := range lines {
		check = checkBehind(check, line)
		journal.WriteString(strconv.Itoa(check) + " " + line + "\n")
	}
	return journal.String()
}

// journalRow has lines with their journal.
type journalRow struct {
	lines   []string
	journal string
}

func journalRows() []journalRow {
	return []journalRow{
		{nil, ""},
		{[]string{}, ""},
		{[]string{""}, "0 \n"},
		{[]string{"map"}, "20171 map\n"},
		{[]string{"map", "points"}, "20171 map\n11238 points\n"},
		{[]string{"", "", ""}, "0 \n0 \n0 \n"},
		{[]string{"long 3", "word 1", "", " ", "length", "12 map"}, "18400 long 3\n63825 word 1\n63825 \n30683  \n27043 length\n29516 12 map\n"},
		{[]string{"\x00\xff", "\r", strings.Repeat("x", 300)}, "63094 \x00\xff\n54227 \r\n4940 " + strings.Repeat("x", 300) + "\n"},
	}
}

func wantRecoveredLines(t *testing.T, what, text string, want []string, wantLong int) {
	t.Helper()
	got, long, ok := impl.RecoverJournal(text)
	if !ok || long != int64(wantLong) || !slices.Equal(got, want) {
		t.Errorf("RecoverJournal of %s: got %q, %d, %v, want %q, %d", what, got, long, ok, want, wantLong)
	}
	there, _, _ := impl.RunDesk(impl.NewDesk(), scriptOf(want))
	d, count, ok := impl.RunJournal(impl.NewDesk(), text)
	wantInteger(t, "RunJournal of "+what, count, ok, int64(len(want)))
	wantDesk(t, "RunJournal of "+what, d, ok, there)
}

func TestJournalOf(t *testing.T) {
	for _, r := range journalRows() {
		got, ok := impl.JournalOf(r.lines)
		wantText(t, "JournalOf", got, ok, r.journal)
		wantText(t, "what the test takes for the journal", journalBehind(0, r.lines...), true, r.journal)
		wantRecoveredLines(t, "a journal", r.journal, r.lines, len(r.journal))
	}
	got, ok := impl.JournalOf(someLines())
	wantText(t, "JournalOf", got, ok, journalBehind(0, someLines()...))
}

func TestJournalOfFails(t *testing.T) {
	for _, lines := range [][]string{{"\n"}, {"map\n"}, {"\nmap"}, {"ma\np"}, {"map", "points\n"}, {"map\n", "points"}, {"", "\n", ""}, {"map\n", strings.Repeat("x", 20000)}, repeated("\n", 9000)} {
		got, ok := impl.JournalOf(lines)
		wantNone(t, "JournalOf of lines with newlines", got, ok)
	}
	for _, lines := range [][]string{{strings.Repeat("x", 16000)}, {"map", strings.Repeat("x", 70000), "map"}, repeated("map", 16000), repeated("", 5334), repeated("", 100000), {strings.Repeat("x", 9000), strings.Repeat("y", 9000)}} {
		got, ok := impl.JournalOf(lines)
		wantNone(t, "JournalOf of too much", got, ok)
	}
}

// TestLimitOfJournals reaches the limit exactly.
func TestLimitOfJournals(t *testing.T) {
	reached := 0
	for _, first := range [][]string{nil, {"map"}, repeated("", 5000), repeated("", 5320)} {
		for less := range 20 {
			lines := append(slices.Clone(first), strings.Repeat("x", 16000-less-len(journalBehind(0, first...))))
			want := journalBehind(0, lines...)
			got, ok := impl.JournalOf(lines)
			if len(want) > 16000 {
				wantNone(t, "JournalOf of too much", got, ok)
				continue
			}
			wantText(t, "JournalOf of much", got, ok, want)
			wantRecoveredLines(t, "a long journal", want, lines, len(want))
			if len(want) == 16000 {
				reached++
			}
		}
	}
	// Check numbers with less digits leave out the one or the other length.
	wantBool(t, "whether journals have 16000 bytes", reached > 1, true)
	got, ok := impl.JournalOf(repeated("", 5333))
	wantText(t, "JournalOf of empty lines", got, ok, strings.Repeat("0 \n", 5333))
	wantRecoveredLines(t, "empty lines", strings.Repeat("0 \n", 5333), repeated("", 5333), 15999)
	wantRecoveredLines(t, "empty lines that are cut", strings.Repeat("0 \n", 5333)+"0", repeated("", 5333), 15999)
	for _, text := range []string{strings.Repeat("0 \n", 5334), strings.Repeat("0 \n", 5333) + "0 ", strings.Repeat("x", 16001), strings.Repeat("\n", 70000), "20171 map\n" + strings.Repeat("x", 15991)} {
		lines, long, ok := impl.RecoverJournal(text)
		wantNoList(t, "RecoverJournal of too much", lines, ok)
		wantNone(t, "RecoverJournal of too much", long, ok)
		d, count, ok := impl.RunJournal(impl.NewDesk(), text)
		wantNoDesk(t, "RunJournal of too much", d, ok)
		wantNone(t, "RunJournal of too much", count, ok)
	}
	wantRecoveredLines(t, "a text of 16000 bytes", "20171 map\n"+strings.Repeat("x", 15990), []string{"map"}, 10)
}

// TestJournalsAreRecovered holds the second half of promise 9: what is intact
// is recovered, wherever a journal is cut or changed.
func TestJournalsAreRecovered(t *testing.T) {
	journals := [][]string{someLines()[:9], {"map", "points", "map"}, {"", "", "x"}, {" ", "  ", "0 ", "12 map"}, {"grammar F;F=FF", "draw 3 00000000 3f800000", "no\r", "fit 0000000000000000 3f80000000000000"}}
	for _, lines := range journals {
		whole := journalBehind(0, lines...)
		ends := []int{0}
		for count := range lines {
			ends = append(ends, len(journalBehind(0, lines[:count+1]...)))
		}
		for i := range len(whole) + 1 {
			count := len(lines)
			for ends[count] > i {
				count--
			}
			wantRecoveredLines(t, "a journal that is cut", whole[:i], lines[:count], ends[count])
			if i == len(whole) {
				continue
			}
			for _, b := range []byte{whole[i] ^ 1, whole[i] ^ 128, 'x', '0', ' ', '\n'} {
				if b != whole[i] {
					other := []byte(whole)
					other[i] = b
					wantRecoveredLines(t, "a journal that is changed", string(other), lines[:count], ends[count])
				}
			}
			more := whole[:i] + "x" + whole[i:]
			wantRecoveredLines(t, "a journal with a byte more", more, lines[:count], ends[count])
		}
		for _, more := range []string{"\n", " ", "x", "0", "0 x\n", " map\n", "map\n", "65003 \n", "\x00\n"} {
			wantRecoveredLines(t, "a journal with more behind it", whole+more, lines, len(whole))
			wantRecoveredLines(t, "a journal with more before it", more+whole, nil, 0)
		}
	}
}

// TestOtherNumbers has numbers that have the value of the check number, but not its digits.
func TestOtherNumbers(t *testing.T) {
	for _, text := range []string{
		"020171 map\n", "+20171 map\n", "20171.0 map\n", "85174 map\n", " 20171 map\n", "20171  map\n", "20171 map \n", "20171\tmap\n", "20171map\n", "20171\nmap\n", "map 20171\n", "map\n", "20171 Map\n", "20171 map\r\n", "20171 map", "20171 map\r",
		"-44832 map\n", "0 map\n", " map\n", "20170 map\n", "20172 map\n", "\n20171 map\n", "-0 \n", "00 \n", " \n", "\n", "0\n", "0 ", "0", "65003 \n", "", "x", " ",
	} {
		wantRecoveredLines(t, "other numbers", text, nil, 0)
	}
	for _, text := range strange() {
		if len(text) <= 16000 {
			wantRecoveredLines(t, "strange texts", text, nil, 0)
		}
	}
	// Each check number begins with the one before.
	wantRecoveredLines(t, "a line twice, with its number", "20171 map\n20171 map\n", []string{"map"}, 10)
	wantRecoveredLines(t, "journals behind one another", journalBehind(0, "map", "view")+journalBehind(0, "map", "view"), []string{"map", "view"}, len(journalBehind(0, "map", "view")))
	other := journalBehind(0, "map", "area")
	wantRecoveredLines(t, "a changed line with its number", other+journalBehind(checkBehind(0, "mapview"), "length"), []string{"map", "area"}, len(other))
	wantRecoveredLines(t, "a line that is left out", journalBehind(0, "map")+journalBehind(checkBehind(0, "mapview"), "length"), []string{"map"}, 10)
}

func TestRunJournal(t *testing.T) {
	for _, d := range validDesks() {
		want, _, _ := impl.RunDesk(d, scriptOf(someLines()))
		after, count, ok := impl.RunJournal(d, journalBehind(0, someLines()...))
		wantInteger(t, "RunJournal", count, ok, int64(len(someLines())))
		wantDesk(t, "RunJournal", after, ok, want)
		after, count, ok = impl.RunJournal(d, "")
		wantInteger(t, "RunJournal of nothing", count, ok, 0)
		wantDesk(t, "RunJournal of nothing", after, ok, d)
		// Lines that are none count, too, and change nothing.
		after, count, ok = impl.RunJournal(d, journalBehind(0, "what", "", "map 9", "simple bf800000")+"x")
		wantInteger(t, "RunJournal of lines in vain", count, ok, 4)
		wantDesk(t, "RunJournal of lines in vain", after, ok, d)
	}
}
