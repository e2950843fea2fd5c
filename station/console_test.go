package station

import (
	"fmt"
	"math/rand/v2"
	"strings"
	"testing"

	"scanchain/api"
)

// wantAnswers wants the lines of a script, the first one of each pair, to be answered with the other one.
func wantAnswers(t *testing.T, l []api.Entry, pairs ...string) {
	t.Helper()
	var lines, answers string
	for i := 0; i < len(pairs); i += 2 {
		lines += pairs[i] + "\n"
		answers += pairs[i+1]
	}
	wantValue(t, lines, answers, api.OK)(Console(two(), l, lines))
}

func TestConsole(t *testing.T) {
	wantAnswers(t, failing())
	wantAnswers(t, failing(),
		"counts", "waits 1\nruns 0\nfailed 0\ndone 0\nscrapped 0\n",
		"waiting scan", "b1\n",
		"running", "",
		"next", "scan b1\n",
		"board b1", "waits scan 0\n",
		"board b2", "error 8\n",
		"pass scan", "error 8\n",
		"at 1", "ok\n",
		"waiting scan", "b1\nb2\n",
		"waiting flash", "",
		"at 11", "ok\n",
		"running", "a b1\n",
		"next", "flash b2\n",
		"board b1", "runs scan 10\n",
		"board b2", "waits flash 9\n",
		"pass scan", "1/2\n",
		"pass flash", "error 8\n",
		"at 5", "ok\n",
		"board b1", "failed scan 5\n",
		"pass scan", "0/1\n",
		"at 19", "ok\n",
		"counts", "waits 0\nruns 0\nfailed 0\ndone 1\nscrapped 1\n",
		"board b1", "scrapped scan 12\n",
		"board b2", "done - 18\n",
		"pass flash", "1/1\n",
		"next", "",
		"at 345686399999", "ok\n",
		"board b1", "runs scan 10\n",
		"at 0", "ok\n",
		"board b1", "waits scan 0\n",
	)
	wantAnswers(t, many(),
		"at 9", "ok\n",
		"running", "a c\ns10 a\ns9 x\n",
		"waiting scan", "b10\nb9\ny\nd\n",
		"at 7", "ok\n",
		"next", "scan a\nflash c\n",
	)
}

func TestConsoleErrors(t *testing.T) {
	for line, want := range map[string]api.Errno{
		"waiting other": api.ErrNone, "waiting SCAN": api.ErrNone, "pass other": api.ErrNone, "pass -": api.ErrNone,
		"board B1": api.ErrName, "board -": api.ErrName, "board 1": api.ErrName, "board b1\t": api.ErrName, "board b1\r": api.ErrName, "board b3": api.ErrNone,
		"at -1": api.ErrArg, "at 345686400000": api.ErrArg, "at 999999999999999": api.ErrArg, "at -999999999999999": api.ErrArg,
	} {
		wantAnswers(t, failing(), "at 9", "ok\n", line, fmt.Sprintf("error %d\n", want), "board b2", "waits flash 9\n")
	}
	for _, line := range []string{
		"", " ", "hey", "hey you", "Counts", "counts ", " counts", "counts 1", "running ", "running a", "next ", "next scan", "count", "next\r", "next\t",
		"at", "at ", "at  1", "at 1 ", "at 1 2", " at 1", "at x", "at 01", "at +1", "at -0", "at 1.0", "at 1e3", "at 0x1", "at 1_0", "at -", "at 1000000000000000", "at -1000000000000000", "at 99999999999999999999", "AT 1", "at\t1", "at1",
		"waiting", "waiting ", "waiting  scan", "waiting scan ", "waiting scan flash", "board", "board ", "board  b1", "board b1 ", "board b1 b2", "pass", "pass ", "pass  scan", "pass scan ", "pass scan flash",
		"oldest", "times scan", "busy a", "refused", "rolled", "ok", "error 9",
	} {
		wantAnswers(t, failing(), "at 9", "ok\n", line, "error 9\n", "board b2", "waits flash 9\n")
	}
}

func TestConsoleText(t *testing.T) {
	for _, text := range []string{"x", "counts", "at 5\ncounts", "\n ", "at 5\n\nnext", "counts\r"} {
		wantValue(t, text, "", api.ErrSyntax)(Console(two(), failing(), text))
	}
	most := strings.Repeat("at 1\n", 400)
	wantValue(t, "most", strings.Repeat("ok\n", 400), api.OK)(Console(two(), failing(), most))
	wantValue(t, "lines", strings.Repeat("error 9\n", 2_000), api.OK)(Console(two(), failing(), strings.Repeat("\n", 2_000)))
	wantValue(t, "a line", "error 9\n", api.OK)(Console(two(), failing(), strings.Repeat("x", 1_999)+"\n"))
	wantValue(t, "a line that is not ended", "", api.ErrSyntax)(Console(two(), failing(), strings.Repeat("x", 2_000)))
	for _, text := range []string{most + "\n", most + "x", strings.Repeat("x", 2_001), strings.Repeat("\n", 200_000)} {
		wantValue(t, text[:10], "", api.ErrLarge)(Console(two(), failing(), text))
	}
	wantValue(t, "no script", "", api.OK)(Console(two(), nil, ""))
}

// plainAnswer asks the functions.
func plainAnswer(f api.Flow, l []api.Entry, at int, line string) string {
	var lines []string
	list := func(pairs []api.Pair, e api.Errno) api.Errno {
		for _, pair := range pairs {
			lines = append(lines, pair.Name+" "+pair.Value+"\n")
		}
		return e
	}
	e := api.OK
	what, of, _ := strings.Cut(line, " ")
	switch what {
	case "counts":
		e = list(Counts(f, l, at))
	case "running":
		e = list(Running(f, l, at))
	case "next":
		e = list(Next(f, l, at))
	case "waiting":
		var names []string
		names, e = Waiting(f, l, of, at)
		for _, name := range names {
			lines = append(lines, name+"\n")
		}
	case "pass":
		var part api.Fraction
		part, e = Pass(f, l, of, at)
		lines = []string{fmt.Sprintf("%d/%d\n", part.Num, part.Den)}
	case "board":
		var s api.Status
		s, e = Of(f, l, of, at)
		if s.State == api.BoardDone {
			s.Step = "-"
		}
		lines = []string{fmt.Sprintln([]string{"", "waits", "runs", "failed", "done", "scrapped"}[s.State], s.Step, s.Since)}
	}
	if e != api.OK {
		return fmt.Sprintln("error", int(e))
	}
	return strings.Join(lines, "")
}

func TestConsoleAnswersWhatFunctionsReturn(t *testing.T) {
	asked := []string{"counts", "running", "next", "waiting scan", "waiting flash", "waiting final", "board b9", "board b10", "board b99", "board B", "pass scan", "pass flash", "pass burn-in"}
	randomCases(200, func(r *rand.Rand, f api.Flow, l []api.Entry, _ int) {
		at := 0
		var lines, answers string
		for range 20 {
			if r.IntN(4) == 0 {
				at = r.IntN(60)
				lines += fmt.Sprintln("at", at)
				answers += "ok\n"
			}
			line := asked[r.IntN(len(asked))]
			lines += line + "\n"
			answers += plainAnswer(f, l, at, line)
		}
		wantValue(t, fmt.Sprint(f, l, lines), answers, api.OK)(Console(f, l, lines))
	})
}
