package station

import (
	"strconv"
	"strings"

	"scanchain/api"
	"scanchain/numbers"
	"scanchain/words"
)

// noStep is the word for the step of a board that has none.
const noStep = "-"

// console answers lines, by what entries have led to at a moment.
type console struct {
	flow    api.Flow
	entries []api.Entry
	now     *history
}

// Console answers lines.
func Console(f api.Flow, l []api.Entry, text string) (string, api.Errno) {
	if e := checkBoth(f, l); e != api.OK {
		return "", e
	}
	if len(text) > api.MaxScript {
		return "", api.ErrLarge
	}
	c := console{flow: f, entries: l, now: follow(f, l, 0)}
	var answers strings.Builder
	_, good := words.Lines(text, func(line string) bool {
		for _, answer := range c.answers(line) {
			answers.WriteString(answer)
			answers.WriteByte('\n')
		}
		return true
	})
	if !good {
		return "", api.ErrSyntax
	}
	return answers.String(), api.OK
}

// answers returns the lines that answer a line. With an error, all else that was found is left out.
func (c *console) answers(line string) []string {
	lines, e := c.ask(line)
	if e != api.OK {
		return []string{"error " + strconv.Itoa(int(e))}
	}
	return lines
}

func (c *console) ask(line string) ([]string, api.Errno) {
	parts, good := words.Split(line)
	switch {
	case good && len(parts) == 1:
		return c.askAll(parts[0])
	case good && len(parts) == 2:
		return c.askOne(parts[0], parts[1])
	}
	return nil, api.ErrSyntax
}

// askAll answers a line of one word.
func (c *console) askAll(what string) ([]string, api.Errno) {
	switch what {
	case "counts":
		return pairLines(c.now.counts())
	case "running":
		return pairLines(c.now.bySite())
	case "next":
		return pairLines(c.now.next())
	}
	return nil, api.ErrSyntax
}

// askOne answers a line of two words.
func (c *console) askOne(what, of string) ([]string, api.Errno) {
	switch what {
	case "at":
		return c.goTo(of)
	case "waiting":
		return c.now.waiting(of)
	case "board":
		return statusLine(c.now.of(of))
	case "pass":
		return fractionLine(c.now.pass(of))
	}
	return nil, api.ErrSyntax
}

// goTo takes another moment.
func (c *console) goTo(word string) ([]string, api.Errno) {
	at, is := words.Number(word)
	if !is {
		return nil, api.ErrSyntax
	}
	if !numbers.IsMoment(at) {
		return nil, api.ErrArg
	}
	c.now = follow(c.flow, c.entries, at)
	return []string{"ok"}, api.OK
}

func pairLines(pairs []api.Pair, e api.Errno) ([]string, api.Errno) {
	var lines []string
	for _, pair := range pairs {
		lines = append(lines, pair.Name+" "+pair.Value)
	}
	return lines, e
}

func statusLine(now api.Status, e api.Errno) ([]string, api.Errno) {
	step := now.Step
	if step == "" {
		step = noStep
	}
	return []string{stateWords[now.State] + " " + step + " " + strconv.Itoa(now.Since)}, e
}

func fractionLine(part api.Fraction, e api.Errno) ([]string, api.Errno) {
	return []string{strconv.Itoa(part.Num) + "/" + strconv.Itoa(part.Den)}, e
}
