package record_test

import (
	"math"
	"slices"
	"strings"
	"testing"

	"valise/api"
	"valise/record"
)

func splits(t *testing.T, text string, want api.Errno, fields ...api.Extra) {
	t.Helper()
	if got, e := record.SplitExtra(text); !slices.Equal(got, fields) || e != want || len(fields) == 0 && got != nil {
		t.Errorf("SplitExtra(%.40q) of %d bytes = %.80v, %d, want %.80v, %d", text, len(text), got, e, fields, want)
	}
}

func joins(t *testing.T, text string, want api.Errno, fields ...api.Extra) {
	t.Helper()
	if got, e := record.JoinExtra(fields); got != text || e != want {
		t.Errorf("JoinExtra(%.80v) = %.40q, %d, want %.40q, %d", fields, got, e, text, want)
	}
}

func TestExtraBothWays(t *testing.T) { // P12.8, P12.9
	for _, c := range []struct {
		text   string
		fields []api.Extra
	}{
		{"", nil},
		{"\x00\x00\x00\x00", []api.Extra{{}}},
		{"\xff\xff\x00\x00", []api.Extra{{Tag: 65535}}},
		{"\x02\x01\x03\x00\x00\xff\x80", []api.Extra{{Tag: 0x0102, Data: "\x00\xff\x80"}}},
		{"\x01\x00\x01\x00a\x01\x00\x01\x00a\x01\x00\x00\x00", []api.Extra{{Tag: 1, Data: "a"}, {Tag: 1, Data: "a"}, {Tag: 1}}},
		{"\x09\x00\x04\x00\x09\x00\x00\x00", []api.Extra{{Tag: 9, Data: "\x09\x00\x00\x00"}}}, // a field within a field's data is data
		{"\x03\x00\x00\x01" + strings.Repeat("d", 256) + "\x02\x00\x00\x00", []api.Extra{{Tag: 3, Data: strings.Repeat("d", 256)}, {Tag: 2}}},
	} {
		splits(t, c.text, api.OK, c.fields...)
		joins(t, c.text, api.OK, c.fields...)
	}
}

func TestSplitShort(t *testing.T) { // P12.8: cut anywhere but at a border
	text := "\x01\x00\x03\x00abc\x02\x00\x00\x00\x03\x00\x01\x00z"
	borders := []int{0, 7, 11, 16}
	fields := []api.Extra{{Tag: 1, Data: "abc"}, {Tag: 2}, {Tag: 3, Data: "z"}}
	for n := range len(text) + 1 {
		if i := slices.Index(borders, n); i >= 0 {
			splits(t, text[:n], api.OK, fields[:i]...)
		} else {
			splits(t, text[:n], api.ErrRecShort)
		}
	}
	splits(t, "\x00\x00\xff\xff", api.ErrRecShort)
	splits(t, "\x00\x00\xff\xff"+strings.Repeat("x", 65531), api.ErrRecShort)
}

func TestExtraMost(t *testing.T) { // P12.8, P12.9: the most bytes that an extra text has
	most := "\x01\x00\xfb\xff" + strings.Repeat("x", 65531)
	splits(t, most, api.OK, api.Extra{Tag: 1, Data: most[4:]})
	joins(t, most, api.OK, api.Extra{Tag: 1, Data: most[4:]})
	for _, text := range []string{most + "x", strings.Repeat("\x00", 65536), strings.Repeat("x", 65537), strings.Repeat("x", 1<<20)} {
		splits(t, text, api.ErrRecWide) // ahead of ErrRecShort
	}
	splits(t, strings.Repeat("\x00", 65532), api.OK, make([]api.Extra, 16383)...)
	splits(t, strings.Repeat("\x00", 65535), api.ErrRecShort)
	joins(t, strings.Repeat("\x00", 65532), api.OK, make([]api.Extra, 16383)...)
	joins(t, "", api.ErrRecWide, make([]api.Extra, 16384)...)
	joins(t, "", api.ErrRecWide, make([]api.Extra, 1<<20)...)
	full := []api.Extra{{Data: strings.Repeat("x", 30000)}, {Data: strings.Repeat("x", 35527)}}
	if text, e := record.JoinExtra(full); len(text) != 65535 || e != api.OK {
		t.Errorf("JoinExtra of just the most = %d bytes, %d", len(text), e)
	}
	joins(t, "", api.ErrRecWide, append(full, api.Extra{})...)
	full[1].Data += "x"
	joins(t, "", api.ErrRecWide, full...)
}

func TestJoinWide(t *testing.T) { // P12.9: first, last or alone
	long := strings.Repeat("x", 65536)
	for _, wide := range []api.Extra{{Tag: -1}, {Tag: 65536}, {Tag: math.MinInt}, {Tag: math.MaxInt}, {Tag: 1 << 32}, {Data: long}, {Data: long[:65535]}, {Data: long[:65532]}} {
		joins(t, "", api.ErrRecWide, wide)
		joins(t, "", api.ErrRecWide, wide, api.Extra{Tag: 1})
		joins(t, "", api.ErrRecWide, api.Extra{Tag: 1}, wide)
	}
}
