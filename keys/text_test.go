package keys_test

import (
	"math"
	"math/big"
	"math/rand"
	"regexp"
	"strconv"
	"strings"
	"testing"

	"prelude/api"
	"prelude/keys"
)

// 2.3, 2.4: keys' texts, there and back.
func TestText(t *testing.T) {
	for _, c := range []struct {
		k    api.Key
		want string
	}{
		{key(7, -12), "7:-12"},
		{key(0, math.MinInt64), "0:-9223372036854775808"},
		{key(65535, math.MaxInt64), "65535:9223372036854775807"},
		{key(0, 0), "0:0"},
		{key(10, 100), "10:100"},
		{key(1, -1), "1:-1"},
		{key(65535, 0), "65535:0"},
	} {
		if s, e := keys.Text(c.k); s != c.want || e != api.OK {
			t.Errorf("Text(%v) is %q, %d", c.k, s, e)
		}
		if k, at, e := keys.Parse(c.want); k != c.k || at != 0 || e != api.OK {
			t.Errorf("Parse(%q) is %v, %d, %d", c.want, k, at, e)
		}
	}
}

// 2.3: the text of no key.
func TestTextOfNoKey(t *testing.T) {
	for _, k := range noKeys() {
		if s, e := keys.Text(k); s != "" || e != api.ErrKey {
			t.Errorf("Text(%v) is %q, %d", k, s, e)
		}
	}
}

// 2.11: a key's text is read as that key.
func TestTextThereAndBack(t *testing.T) {
	texts := map[string]api.Key{}
	for _, k := range rungs() {
		s, e := keys.Text(k)
		if want := strconv.Itoa(k.Table) + ":" + big.NewInt(k.Row).String(); s != want || e != api.OK {
			t.Errorf("Text(%v) is %q, %d", k, s, e)
		}
		if other, is := texts[s]; is {
			t.Errorf("%v and %v have one text %q", k, other, s)
		}
		texts[s] = k
		if back, at, e := keys.Parse(s); back != k || at != 0 || e != api.OK {
			t.Errorf("Parse(%q) is %v, %d, %d", s, back, at, e)
		}
	}
}

// 2.4: what is wrong with a text, and where. The first lines are the chapter's examples.
func TestParseRefuses(t *testing.T) {
	for _, c := range []struct {
		text string
		at   int
		e    api.Errno
	}{
		{"", 0, api.ErrWord},
		{"x", 0, api.ErrWord},
		{"07:1", 1, api.ErrWord},
		{"65536:0", 0, api.ErrNumber},
		{"7", 1, api.ErrWord},
		{"7;1", 1, api.ErrWord},
		{"7:", 2, api.ErrWord},
		{"7:-", 3, api.ErrWord},
		{"7:+1", 2, api.ErrWord},
		{"7:01", 3, api.ErrWord},
		{"7:-0", 3, api.ErrWord},
		{"7:-01", 3, api.ErrWord},
		{"7:9223372036854775808", 2, api.ErrNumber},
		{"7:-9223372036854775809", 2, api.ErrNumber},
		{"7:1 ", 3, api.ErrWord},

		// The Table.
		{":1", 0, api.ErrWord},
		{"-1:1", 0, api.ErrWord},
		{"+1:1", 0, api.ErrWord},
		{"-0:1", 0, api.ErrWord},
		{" 7:1", 0, api.ErrWord},
		{"00", 1, api.ErrWord},
		{"00:1", 1, api.ErrWord},
		{"0", 1, api.ErrWord},
		{"065536:1", 1, api.ErrWord},
		{"0x7:1", 1, api.ErrWord},
		{"1_0:1", 1, api.ErrWord},
		{"1.5:1", 1, api.ErrWord},
		{"65536", 0, api.ErrNumber},
		{"65536;", 0, api.ErrNumber},
		{"65536:01", 0, api.ErrNumber},
		{"65537:0", 0, api.ErrNumber},
		{"99999:0", 0, api.ErrNumber},
		{"100000:0", 0, api.ErrNumber},
		{"4294967296:0", 0, api.ErrNumber},
		{"9223372036854775808:0", 0, api.ErrNumber},
		{"18446744073709551616:0", 0, api.ErrNumber},
		{"18446744073709551623:0", 0, api.ErrNumber},
		{"٣:1", 0, api.ErrWord},
		{"\xff", 0, api.ErrWord},
		{"\x00:1", 0, api.ErrWord},

		// The colon.
		{"65535", 5, api.ErrWord},
		{"7 :1", 1, api.ErrWord},
		{"7-1", 1, api.ErrWord},
		{"7x:1", 1, api.ErrWord},
		{"12٣:1", 2, api.ErrWord},
		{"7：1", 1, api.ErrWord},

		// The Row.
		{"65535:", 6, api.ErrWord},
		{"7::1", 2, api.ErrWord},
		{"7: 1", 2, api.ErrWord},
		{"7:x", 2, api.ErrWord},
		{"7:--1", 3, api.ErrWord},
		{"7:-+1", 3, api.ErrWord},
		{"7:- 1", 3, api.ErrWord},
		{"7:-x", 3, api.ErrWord},
		{"7:-:", 3, api.ErrWord},
		{"7:-00", 3, api.ErrWord},
		{"7:-0x", 3, api.ErrWord},
		{"7:00", 3, api.ErrWord},
		{"7:00x", 3, api.ErrWord},
		{"7:09223372036854775808", 3, api.ErrWord},
		{"7:-09223372036854775809", 3, api.ErrWord},
		{"7:٣", 2, api.ErrWord},
		{"7:−1", 2, api.ErrWord},
		{"12:9223372036854775808", 3, api.ErrNumber},
		{"12:-9223372036854775809", 3, api.ErrNumber},
		{"7:9223372036854775808x", 2, api.ErrNumber},
		{"7:-9223372036854775809:", 2, api.ErrNumber},
		{"7:18446744073709551615", 2, api.ErrNumber},
		{"7:18446744073709551616", 2, api.ErrNumber},
		{"7:18446744073709551617", 2, api.ErrNumber},
		{"7:-18446744073709551616", 2, api.ErrNumber},
		{"7:-18446744073709551617", 2, api.ErrNumber},
		{"7:10000000000000000000", 2, api.ErrNumber},

		// What follows.
		{"7:0x", 3, api.ErrWord},
		{"7:0-", 3, api.ErrWord},
		{"7:0:", 3, api.ErrWord},
		{"7:1-", 3, api.ErrWord},
		{"7:1:1", 3, api.ErrWord},
		{"7:-12x", 5, api.ErrWord},
		{"7:1_0", 3, api.ErrWord},
		{"7:1e3", 3, api.ErrWord},
		{"7:1\n", 3, api.ErrWord},
		{"7:1\x00", 3, api.ErrWord},
		{"7:1٣", 3, api.ErrWord},
		{"65535:9223372036854775807 ", 25, api.ErrWord},
		{"0:-9223372036854775808,0:1", 22, api.ErrWord},
	} {
		if k, at, e := keys.Parse(c.text); k != (api.Key{}) || at != c.at || e != c.e {
			t.Errorf("Parse(%q) is %v, %d, %d; want %d, %d", c.text, k, at, e, c.at, c.e)
		}
	}
}

// 2.1, 2.4: texts of many digits.
func TestParseLong(t *testing.T) {
	nines, zeros := strings.Repeat("9", 100000), strings.Repeat("0", 100000)
	for _, c := range []struct {
		text string
		at   int
		e    api.Errno
	}{
		{nines, 0, api.ErrNumber},
		{nines + ":1", 0, api.ErrNumber},
		{"1" + zeros + ":1", 0, api.ErrNumber},
		{zeros, 1, api.ErrWord},
		{zeros + "7:1", 1, api.ErrWord},
		{"7:" + nines, 2, api.ErrNumber},
		{"7:-" + nines + "x", 2, api.ErrNumber},
		{"7:1" + zeros, 2, api.ErrNumber},
		{"7:" + zeros, 3, api.ErrWord},
		{"7:-" + zeros, 3, api.ErrWord},
		{"7:1" + strings.Repeat("x", 100000), 3, api.ErrWord},
	} {
		if k, at, e := keys.Parse(c.text); k != (api.Key{}) || at != c.at || e != c.e {
			t.Errorf("Parse(%q..) is %v, %d, %d; want %d, %d", c.text[:4], k, at, e, c.at, c.e)
		}
	}
}

var (
	manyDigits = regexp.MustCompile(`^[0-9]+`)
	someDigits = regexp.MustCompile(`^[0-9]*`)
	wholeKey   = regexp.MustCompile(`^(0|[1-9][0-9]*):(0|-?[1-9][0-9]*)$`)
)

// slowly is promise 2.4, step by step.
func slowly(text string) (api.Key, int, api.Errno) {
	none := api.Key{}
	first := manyDigits.FindString(text)
	if first == "" {
		return none, 0, api.ErrWord
	}
	if first[0] == '0' && len(first) > 1 {
		return none, 1, api.ErrWord
	}
	table, _ := new(big.Int).SetString(first, 10)
	if table.Cmp(big.NewInt(65535)) > 0 {
		return none, 0, api.ErrNumber
	}
	if !strings.HasPrefix(text[len(first):], ":") {
		return none, len(first), api.ErrWord
	}
	from := len(first) + 1
	sign := ""
	if strings.HasPrefix(text[from:], "-") {
		sign = "-"
	}
	second := someDigits.FindString(text[from+len(sign):])
	if second == "" || sign == "-" && second[0] == '0' {
		return none, from + len(sign), api.ErrWord
	}
	if second[0] == '0' && len(second) > 1 {
		return none, from + 1, api.ErrWord
	}
	row, _ := new(big.Int).SetString(sign+second, 10)
	if !row.IsInt64() {
		return none, from, api.ErrNumber
	}
	if end := from + len(sign) + len(second); end != len(text) {
		return none, end, api.ErrWord
	}
	return key(int(table.Int64()), row.Int64()), 0, api.OK
}

// checkParse holds a Parse against the promise, and against the keys' own texts.
func checkParse(t *testing.T, text string) {
	t.Helper()
	k, at, e := keys.Parse(text)
	if wantKey, wantAt, wantErr := slowly(text); k != wantKey || at != wantAt || e != wantErr {
		t.Errorf("Parse(%q) is %v, %d, %d; want %v, %d, %d", text, k, at, e, wantKey, wantAt, wantErr)
	}
	if e != api.OK {
		return
	}
	if s, _ := keys.Text(k); s != text || !wholeKey.MatchString(text) {
		t.Errorf("Parse takes %q, and the text of %v is %q", text, k, s)
	}
}

// 2.4, 2.11: all short texts of digits, signs and others.
func TestParseAllShortTexts(t *testing.T) {
	var walk func(s string)
	walk = func(s string) {
		checkParse(t, s)
		if len(s) == 6 {
			return
		}
		for _, c := range ":-+019x" {
			walk(s + string(c))
		}
	}
	walk("")
}

// 2.4: texts of keys with a byte changed, put in or taken out, and numbers near the limits.
func TestParseSpoiltTexts(t *testing.T) {
	random := rand.New(rand.NewSource(1))
	const letters = "0123456789:-+ x\xff"
	l := rungs()
	for range 20000 {
		s, _ := keys.Text(l[random.Intn(len(l))])
		for range 1 + random.Intn(2) {
			at, c := random.Intn(len(s)+1), letters[random.Intn(len(letters))]
			switch cut := min(at+1, len(s)); random.Intn(3) {
			case 0:
				s = s[:at] + s[cut:]
			case 1:
				s = s[:at] + string([]byte{c}) + s[at:]
			case 2:
				s = s[:at] + string([]byte{c}) + s[cut:]
			}
		}
		checkParse(t, s)
	}
	for off := int64(-20); off <= 20; off++ {
		near := func(n string) string {
			b, _ := new(big.Int).SetString(n, 10)
			return b.Add(b, big.NewInt(off)).String()
		}
		checkParse(t, near("65535")+":0")
		checkParse(t, "0:"+near("9223372036854775807"))
		checkParse(t, "0:"+near("-9223372036854775808"))
		checkParse(t, "0:"+near("0"))
	}
}
