package wafer

import (
	"math/rand/v2"
	"slices"
	"strings"
	"testing"

	"scanchain/api"
)

func wantText(t *testing.T, w api.Wafer, want string) {
	t.Helper()
	if text, e := Text(w); e != api.OK || text != want {
		t.Errorf("%q %v, not %q", text, e, want)
	}
	got, number, e := Read(want)
	if number != 0 {
		t.Error(want, number)
	}
	wantWafer(t, want, w)(got, e)
}

func TestText(t *testing.T) {
	wantText(t, waferWith("1", "...1??"), "pass 1\n3[.] [1] 2[?]\n")
	wantText(t, waferWith("", "."), "pass -\n[.]\n")
	wantText(t, cross(), "pass 1\n[1] [x] [1]\n3[x]\n[1] [x] [1]\n")
	wantText(t, waferWith("09az", "00*", "99z", "aa?"), "pass 09az\n2[0] [*]\n2[9] [z]\n2[a] [?]\n")
	wantText(t, waferWith("", strings.Repeat("?", 10)+strings.Repeat(".", 50)), "pass -\n10[?] 50[.]\n")
	wantText(t, filled(60, 60, "z"), "pass 1\n"+strings.Repeat("60[z]\n", 60))
	mixed := waferWith("0123456789abcdefghijklmnopqrstuvwxyz", slices.Repeat([]string{strings.Repeat("1x", 30)}, 60)...)
	wantText(t, mixed, plainText(mixed))
	randomCases(300, func(_ *rand.Rand, w api.Wafer) { wantText(t, w, plainText(w)) })
}

func wantNotRead(t *testing.T, name, text string, want api.Errno, wantNumber int) {
	t.Helper()
	if w, number, e := Read(text); e != want || number != wantNumber || !isNone(w) {
		t.Errorf("%s: %v %d %v, not %d %v", name, w, number, e, wantNumber, want)
	}
}

func TestReadPassSyntax(t *testing.T) {
	for _, line := range []string{
		"", " ", "pass", "pass ", " pass 1", "pass 1 ", "pass  1", "pass 1 2", "pass - ", "pass - -", "Pass 1", "pas 1", "passs 1", "pass\t1", "pass1", "[1]", "1", "-",
	} {
		wantNotRead(t, line, line+"\n", api.ErrSyntax, 0)
		wantNotRead(t, line+" before a row", line+"\n[1]\n", api.ErrSyntax, 0)
		wantNotRead(t, line+" before a row that is wrong", line+"\nx\n", api.ErrSyntax, 0)
	}
	wantNotRead(t, "no line", "", api.ErrSyntax, 0)
	wantNotRead(t, "a line that is not ended", "pass 1", api.ErrSyntax, 0)
	wantNotRead(t, "a second pass", "pass 1\npass 1\n[1]\n", api.ErrSyntax, 1)
}

func TestReadRowSyntax(t *testing.T) {
	for _, line := range []string{
		"", " ", "1", "x", "[", "]", "[]", "[1", "1]", "[1][1]", "[1]2[x]", "[12]", "[11]", "[1]]", "[[1]", "[1] ", " [1]", "[1]  [x]", "[1]\t[x]",
		"[1] [1]", "2[1] 3[1]", "[x] [1] [1]", "[x] 2[1] [1] [x]",
		"0[1]", "1[1]", "-1[1]", "-2[1]", "61[1]", "02[1]", "+2[1]", "2.0[1]", "x[1]", "100[1]", "999999999999999[1]", "1000000000000000[1]", "99999999999999999999[1]", "2 [1]", "2[1]3", "2[1]x", "60[.] 61[1]", "[x] 1[1]", "[x] !", "[x] [!]", "[x] 2[]", "[x] [1 [?]",
		"[!]", "[A]", "[Z]", "[ ]", "[-]", "[/]", "[:]", "[`]", "[{]", "[\x80]", "[ä]", "[1]\r", "[\n]", "[[]", "[]]", "(1)", "3[1)", "pass 1",
	} {
		wantNotRead(t, line, "pass 1\n"+line+"\n", api.ErrSyntax, 1)
		wantNotRead(t, line+" after rows", "pass 1\n[1] [x]\n2[?]\n"+line+"\n[1] [x]\n", api.ErrSyntax, 3)
		wantNotRead(t, line+" before another line", "pass 1\n[1]\n"+line+"\nx\n", api.ErrSyntax, 2)
		wantNotRead(t, line+" after a wafer that is wrong", "pass 11\n"+strings.Repeat("60[1] [x]\n", 70)+line+"\n", api.ErrSyntax, 71)
	}
	wantNotRead(t, "a line that is not ended", "pass 1\n[1]", api.ErrSyntax, 1)
	wantNotRead(t, "a line that is not ended", "pass 1\n[1]\n[x]\n[?]", api.ErrSyntax, 3)
}

func TestReadChecksTheWafer(t *testing.T) {
	for text, want := range map[string]api.Errno{
		"pass 1\n":                               api.ErrNone,
		"pass -\n":                               api.ErrNone,
		"pass !\n":                               api.ErrNone,
		"pass 1\n" + strings.Repeat("[1]\n", 61): api.ErrLarge,
		"pass 1\n60[1] [x]\n":                    api.ErrLarge,
		"pass 1\n[1] 60[x]\n":                    api.ErrLarge,
		"pass 1\n31[1] 30[x]\n":                  api.ErrLarge,
		"pass !\n[1]\n2[1]\n60[.] [?]\n":         api.ErrLarge,
		"pass 1\n[1]\n2[1]\n":                    api.ErrForm,
		"pass 1\n[1] [x] [1]\n[1] [x]\n":         api.ErrForm,
		"pass 11\n[1]\n2[1]\n":                   api.ErrForm,
		"pass A\n[1]\n":                          api.ErrSyntax,
		"pass --\n[1]\n":                         api.ErrSyntax,
		"pass -1\n[1]\n":                         api.ErrSyntax,
		"pass 1-\n[1]\n":                         api.ErrSyntax,
		"pass .\n[1]\n":                          api.ErrSyntax,
		"pass \xff\n[1]\n":                       api.ErrSyntax,
		"pass 1\r\n[1]\n":                        api.ErrSyntax,
		"pass 11\n[1]\n":                         api.ErrOrder,
		"pass a1\n[1]\n":                         api.ErrOrder,
	} {
		wantNotRead(t, text[:min(len(text), 30)], text, want, 0)
	}
}

func TestReadSize(t *testing.T) {
	// The longest text that is read has the most dies of all texts.
	const runs = "60[.] 60[?] "
	most := "pass -\n" + strings.Repeat(runs, (200_000-8)/len(runs))
	most = most[:len(most)-1] + "\n"
	most += strings.Repeat("[1]\n", (200_000-len(most))/4)
	most = strings.Replace(most, "pass -", "pass "+strings.Repeat("1", 200_001-len(most)), 1)
	if len(most) != 200_000 {
		t.Fatal(len(most))
	}
	wantNotRead(t, "most", most, api.ErrLarge, 0)
	wantNotRead(t, "most, without its end", most[:len(most)-1], api.ErrSyntax, strings.Count(most, "\n")-1)
	passes := "pass " + strings.Repeat("1", 200_000-10) + "\n[1]\n"
	wantNotRead(t, "many that pass", passes, api.ErrOrder, 0)
	wantNotRead(t, "more", strings.Replace(passes, "11", "111", 1), api.ErrLarge, 0)
	wantNotRead(t, "more that is no wafer", strings.Repeat("x", 200_001), api.ErrLarge, 0)
	wantNotRead(t, "as long", strings.Repeat("\n", 200_000), api.ErrSyntax, 0)
}
