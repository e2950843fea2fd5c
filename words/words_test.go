package words

import (
	"slices"
	"strings"
	"testing"

	"scanchain/api"
)

func TestIsKey(t *testing.T) {
	long := strings.Repeat("a", 40)
	for _, s := range []string{"a", "z", "u1", "a0", "a-b_c9", "a-", "a_", long} {
		if !IsKey(s) {
			t.Errorf("%q is a key", s)
		}
	}
	for _, s := range []string{"", long + "a", "A", "1a", "-a", "_a", "aB", "a b", "a.", "a\n", "`", "{", "a`", "a{", "a/", "a:", "ä", "a\x80", "\x00"} {
		if IsKey(s) {
			t.Errorf("%q is no key", s)
		}
	}
}

func TestIsBits(t *testing.T) {
	for _, s := range []string{"", "0", "1", "0110"} {
		if !IsBits(s) {
			t.Errorf("%q is a bit string", s)
		}
	}
	for _, s := range []string{"2", "/", "0 1", "01\n", "0x1", "x", "1x", "x1", "\x80"} {
		if IsBits(s) {
			t.Errorf("%q is no bit string", s)
		}
	}
}

func TestNumber(t *testing.T) {
	for s, want := range map[string]int{"0": 0, "7": 7, "10": 10, "-1": -1, "-10": -10, "999999999999999": 999_999_999_999_999, "-999999999999999": -999_999_999_999_999} {
		if n, good := Number(s); !good || n != want {
			t.Errorf("%q: %d %t", s, n, good)
		}
	}
	for _, s := range []string{"", "-", "-0", "00", "01", "-01", "+1", "--1", " 1", "1 ", "1_0", "0x1", "1e3", "1.0", "a", "1000000000000000", "-1000000000000000", "000000000000000", "99999999999999999999", "१"} {
		if n, good := Number(s); good || n != 0 {
			t.Errorf("%q: %d %t", s, n, good)
		}
	}
}

func TestNumbers(t *testing.T) {
	for _, c := range []struct {
		parts []string
		want  []int
		good  bool
	}{
		{nil, nil, true},
		{[]string{"7"}, []int{7}, true},
		{[]string{"7", "-20", "0"}, []int{7, -20, 0}, true},
		{[]string{""}, nil, false},
		{[]string{"7", "07"}, nil, false},
		{[]string{"x", "7"}, nil, false},
		{[]string{"7", "1000000000000000", "7"}, nil, false},
	} {
		if got, good := Numbers(c.parts); good != c.good || !slices.Equal(got, c.want) {
			t.Error(c.parts, got, good)
		}
	}
}

func TestLines(t *testing.T) {
	for _, c := range []struct {
		text   string
		number int
		good   bool
		read   []string
	}{
		{"", 0, true, nil},
		{"\n", 0, true, []string{""}},
		{"a\n\nb\r\n", 0, true, []string{"a", "", "b\r"}},
		{"a", 0, false, nil},
		{"a\nb\nc", 2, false, []string{"a", "b"}},
		{"a\nbad\nb", 1, false, []string{"a", "bad"}},
	} {
		var read []string
		number, good := Lines(c.text, func(line string) bool {
			read = append(read, line)
			return line != "bad"
		})
		if number != c.number || good != c.good || !slices.Equal(read, c.read) {
			t.Errorf("%q: %d %t %q", c.text, number, good, read)
		}
	}
}

func TestReadList(t *testing.T) {
	most := strings.Repeat("1\n", api.MaxText/2)
	for _, c := range []struct {
		name, text string
		number     int
		want       api.Errno
		list       []int
	}{
		{"no lines", "", 0, api.OK, nil},
		{"lines", "1\n-20\n3\n", 0, api.OK, []int{1, -20, 3}},
		{"a line that is not read", "1\nx\n3\n", 1, api.ErrSyntax, nil},
		{"a line that is not ended", "1\n2\n3", 2, api.ErrSyntax, nil},
		{"what check does not accept", "1\n7\n3\n", 0, api.ErrRule, nil},
		{"syntax before check", "7\n\n", 1, api.ErrSyntax, nil},
		{"longest text", most, 0, api.OK, slices.Repeat([]int{1}, api.MaxText/2)},
		{"longer text", most + "x", 0, api.ErrLarge, nil},
	} {
		list, number, e := ReadList(c.text, Number, func(list []int) api.Errno {
			if slices.Contains(list, 7) {
				return api.ErrRule
			}
			return api.OK
		})
		if e != c.want || number != c.number || !slices.Equal(list, c.list) {
			t.Errorf("%s: %d %d %v", c.name, len(list), number, e)
		}
	}
}

func TestSplit(t *testing.T) {
	for line, want := range map[string][]string{"a": {"a"}, "a b": {"a", "b"}, "a\tb c": {"a\tb", "c"}} {
		if parts, good := Split(line); !good || !slices.Equal(parts, want) {
			t.Errorf("%q: %q %t", line, parts, good)
		}
	}
	for _, line := range []string{"", " ", " a", "a ", "a  b"} {
		if parts, good := Split(line); good || len(parts) != 0 {
			t.Errorf("%q: %q %t", line, parts, good)
		}
	}
}

func TestWrite(t *testing.T) {
	text, e := Write(func(line func(...string)) {
		line("a")
		line("b", "c d", "e")
		line()
	})
	if e != api.OK || text != "a\nb c d e\n\n" {
		t.Errorf("%q %v", text, e)
	}
	if text, e := Write(func(func(...string)) {}); e != api.OK || text != "" {
		t.Errorf("%q %v", text, e)
	}
	most := strings.Repeat("x", api.MaxText-1)
	if text, e := Write(func(line func(...string)) { line(most) }); e != api.OK || text != most+"\n" {
		t.Error(len(text), e)
	}
	if text, e := Write(func(line func(...string)) { line(most + "x") }); e != api.ErrLarge || text != "" {
		t.Error(len(text), e)
	}
}

func TestFresh(t *testing.T) {
	isNew, other := Fresh("a", "b"), Fresh[string]()
	for _, c := range []struct {
		s    string
		want bool
	}{{"a", false}, {"c", true}, {"", true}, {"b", false}, {"c", false}, {"", false}} {
		if isNew(c.s) != c.want {
			t.Errorf("%q", c.s)
		}
	}
	if !other("a") || other("a") {
		t.Error("functions share what they know")
	}
}
