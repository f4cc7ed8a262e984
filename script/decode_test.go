package script_test

import (
	"math"
	"math/rand"
	"slices"
	"strconv"
	"strings"
	"testing"

	"plunder/api"
	"plunder/script"
)

func refused(at int) api.Spot { return api.Spot{Err: api.ErrScript, At: at} }

var tooLong = api.Spot{Err: api.ErrLong}

// checkDecode holds a text against the words, and tells what came of it.
func checkDecode(t *testing.T, text string) api.Spot {
	t.Helper()
	s, spot := script.Decode(text)
	if want, wantSpot := wordsDecode(text); spot != wantSpot || !sameScript(s, want) {
		t.Errorf("10.6: Decode(%.300q) = %d picks, %d draws, %v, want %d, %d, %v", text, len(s.Picks), len(s.Draws), spot, len(want.Picks), len(want.Draws), wantSpot)
	}
	return spot
}

// 10.6: texts that are scripts.
func TestDecodeExamples(t *testing.T) {
	for text, want := range map[string]api.Script{
		"picks draws":                                          {},
		"picks (0 1)*3 -7 draws 5":                             {Picks: []int{0, 1, 0, 1, 0, 1, -7}, Draws: []int{5}},
		"picks (1 2*2)*2 draws":                                {Picks: []int{1, 2, 2, 1, 2, 2}},
		"picks draws (1 (2 3)*2 4)*2":                          {Draws: []int{1, 2, 3, 2, 3, 4, 1, 2, 3, 2, 3, 4}},
		"\t\n picks\n1\t*\n2 draws \n":                         {Picks: []int{1, 1}},
		"picks(1)2(3)*2 draws(4)":                              {Picks: []int{1, 2, 3, 3}, Draws: []int{4}},
		"picks 1*1 (2)*1 draws":                                {Picks: []int{1, 2}},
		"picks -1*2 draws 0*3":                                 {Picks: []int{-1, -1}, Draws: []int{0, 0, 0}},
		"picks draws -9223372036854775808 9223372036854775807": {Draws: []int{math.MinInt, math.MaxInt}},
		"picks ((((((((1)*2)))))))*2 draws":                    {Picks: []int{1, 1, 1, 1}},
		"picks ((((((((1)))))))) ((((((((2)))))))) draws":      {Picks: []int{1, 2}},
	} {
		if s, spot := script.Decode(text); spot != (api.Spot{}) || !sameScript(s, want) {
			t.Errorf("10.6: Decode(%q) = %v, %v, want %v", text, s, spot, want)
		}
		checkDecode(t, text)
	}
}

// 10.6: texts that are none, and where.
func TestDecodeRefusals(t *testing.T) {
	for text, at := range map[string]int{
		"": 0, " ": 1, "\n\n\n": 3, "pick": 0, "picks": 5, "picks ": 6, "picks 0": 7, "picks 0  ": 9, "picks0 draws": 0, "picksdraws": 0, "draws picks": 0, "PICKS draws": 0, "0 picks draws": 0, "(": 0,
		"picks () draws": 7, "picks ( ) draws": 8, "picks (()) draws": 8, "picks (1 ()) draws": 10, "picks ) draws": 6, "picks 1) draws": 7, "picks (1)) draws": 9,
		"picks (1 draws": 9, "picks (1": 8, "picks (": 7, "picks ((1)": 10, "picks draws (": 13, "picks (draws)": 7,
		"picks 1*0 draws": 8, "picks 1*-1 draws": 8, "picks 1*1048577 draws": 8, "picks 1*9223372036854775808 draws": 8, "picks 1*01 draws": 8, "picks 1*x draws": 8, "picks 1*2*3 draws": 9, "picks (1)*2*3 draws": 11, "picks 1* draws": 9, "picks 1*(2) draws": 8, "picks 1**2 draws": 8, "picks *2 draws": 6, "picks 1*": 8, "picks (*2) draws": 7, "picks (1*) draws": 9, "picks draws*2": 11, "picks*2 draws": 5, "picks 1 draws 1*": 16, "picks 1*\n": 9,
		"picks 01 draws": 6, "picks -0 draws": 6, "picks - draws": 6, "picks 1-2 draws": 6, "picks 1a draws": 6, "picks --1 draws": 6, "picks +1 draws": 6, "picks 9223372036854775808 draws": 6, "picks -9223372036854775809 draws": 6, "picks 000000000000000000000 draws": 6, "picks 1draws": 6, "picks 1 draws2": 8,
		"picks draws draws": 12, "picks picks draws": 6, "picks draws picks": 12, "picks 1 2 3": 11, "picks 1, 2 draws": 7, "picks 1\r\n draws": 7, "picks 1 draws 2\x00": 15, "picks\u00a0draws": 5, "picks 1 \xff draws": 8, "picks \u0661 draws": 6, "picks 1 draws 1;": 15,
		"picks (((((((((1))))))))) draws": 14, "picks ((((((((1)))))))( draws": 24, "picks draws (((((((((": 20,
		"picks ((0)*1048576)*2 draws )": 28, "picks 1*1048576 1 draws 01": 24, "picks 1*1048576 1 draws (": 25, "picks 0*1048576 0*1048576 (": 27,
	} {
		if s, spot := script.Decode(text); spot != refused(at) || !empty(s) {
			t.Errorf("10.6: Decode(%q) = %v, %v, want ErrScript at %d", text, s, spot, at)
		}
		checkDecode(t, text)
	}
}

// 10.6: every row of a few tokens. Whatever is right or wrong close by stands in one of them.
func TestDecodeAllShortRows(t *testing.T) {
	tokens := []string{"draws", "0", "-3", "2", "(", ")", "*"}
	good := 0
	for length := range 7 {
		for code := range pow(len(tokens), length) {
			text := "picks"
			for range length {
				text += " " + tokens[code%len(tokens)]
				code /= len(tokens)
			}
			if checkDecode(t, text) == (api.Spot{}) {
				good++
			}
		}
	}
	if good < 1000 {
		t.Errorf("10.6: only %d of the rows are scripts", good)
	}
}

// 10.6: every byte at every place of a text, alone and between blanks.
func TestDecodeEveryByte(t *testing.T) {
	const text = " picks 1*2 (3 4)*5 draws -6"
	for b := range 256 {
		for at := range len(text) + 1 {
			checkDecode(t, text[:at]+string([]byte{byte(b)})+text[at:])
			checkDecode(t, text[:at]+string([]byte{' ', byte(b), '\n'})+text[at:])
		}
	}
}

// drawnList writes a list of the form, within so many open groups.
func drawnList(r *rand.Rand, open int) string {
	var b strings.Builder
	for range r.Intn(5 - min(open, 2)) {
		b.WriteString(strings.Repeat(string(" \t\n"[r.Intn(3)]), 1+r.Intn(2)))
		if open < 8 && r.Intn(3) == 0 {
			b.WriteString("(" + drawnList(r, open+1) + " 1)")
		} else {
			b.WriteString(strconv.Itoa(int(r.Uint64()) >> r.Intn(64)))
		}
		if r.Intn(3) == 0 {
			b.WriteString("*" + strconv.Itoa(1+r.Intn(3)))
		}
	}
	return b.String()
}

// spoilt changes a text at some places.
func spoilt(r *rand.Rand, text string) string {
	for range r.Intn(3) {
		at := r.Intn(len(text) + 1)
		switch r.Intn(3) {
		case 0:
			text = text[:at] + string("()*01-9 \tpds,"[r.Intn(13)]) + text[at:]
		case 1:
			text = text[:at]
		case 2:
			text = text[:at] + text[min(len(text), at+1+r.Intn(3)):]
		}
	}
	return text
}

// 10.6: drawn texts, as they are and spoilt.
func TestDecodeDrawnTexts(t *testing.T) {
	r := rand.New(rand.NewSource(6))
	for range 20000 {
		text := "picks" + drawnList(r, 0) + " draws" + drawnList(r, 0)
		if spot := checkDecode(t, text); spot != (api.Spot{}) {
			t.Errorf("10.6: Decode(%q) = %v", text, spot)
		}
		checkDecode(t, spoilt(r, text))
	}
}

// 10.6: the text's length is looked at ahead of all that is in it.
func TestDecodeLength(t *testing.T) {
	for _, text := range []string{"picks 1 draws 2", "picks 1 draws", "picks 01 draws", "x", "(", ""} {
		for _, length := range []int{65536, 65537, 200000} {
			long := text + strings.Repeat(" ", length-len(text))
			spot := checkDecode(t, long)
			if length > 65536 && spot != tooLong || length == 65536 && spot == tooLong {
				t.Errorf("10.6: Decode(%q and blanks, %d bytes) = %v", text, length, spot)
			}
		}
	}
}

// 10.6: lists that come to too many numbers, and those that just do not.
func TestDecodeManyNumbers(t *testing.T) {
	deep := strings.Repeat("(", 8) + "1 2*1048576" + strings.Repeat(")*1048576", 8)
	for text, want := range map[string]int{
		"0*1048576": 1048576, "0*1048575 1": 1048576, "1 0*1048575": 1048576, "(0)*1048576": 1048576, "(0*1024)*1024": 1048576, "((0 1)*2)*262144": 1048576, "((((((((0*4)*4)*4)*4)*4)*4)*4)*4)*16": 1048576, "(0*1048576)*1": 1048576,
		"0*1048576 1": -1, "1 0*1048576": -1, "0*1048575 1 2": -1, "((0)*1048576)*2": -1, "(0*1024 1)*1024": -1, "(1 0*1048576)*1": -1, "(0*1048575 1 2)": -1, "(0*1048576)*2": -1, "0*1048576 (1 2)*2 3": -1, "(0*1048576 1)*2 (2 (3)*4)": -1, deep: -1, deep + deep: -1,
		strings.Repeat("1*1048576 ", 6500): -1, "(" + strings.Repeat("1*1048576 ", 6500) + ")*1048576": -1, strings.Repeat("1 ", 32000): 32000, "(" + strings.Repeat("1 ", 1024) + ")*1024": 1048576, "(" + strings.Repeat("1 ", 1025) + ")*1024": -1,
	} {
		for _, form := range []string{"picks # draws", "picks draws #", "picks 7 draws #", "picks # draws 8"} {
			whole := strings.Replace(form, "#", text, 1)
			spot := checkDecode(t, whole)
			s, _ := script.Decode(whole)
			if want < 0 && spot != tooLong || want >= 0 && (spot != api.Spot{} || max(len(s.Picks), len(s.Draws)) != want) {
				t.Errorf("10.6: Decode(%.80q) = %d picks, %d draws, %v, want %d", whole, len(s.Picks), len(s.Draws), spot, want)
			}
		}
	}
	if s, spot := script.Decode("picks 0*1048576 draws 1*1048576"); spot != (api.Spot{}) || len(s.Picks) != 1048576 || len(s.Draws) != 1048576 {
		t.Errorf("10.6: both lists as long as may be: %d, %d, %v", len(s.Picks), len(s.Draws), spot)
	}
}

// 10.6, R3: the lists are new memory, and share none.
func TestDecodeIsNewMemory(t *testing.T) {
	const text = "picks (1 2)*2 draws 3 4"
	want := api.Script{Picks: []int{1, 2, 1, 2}, Draws: []int{3, 4}}
	s, _ := script.Decode(text)
	kept := api.Script{Picks: s.Picks, Draws: slices.Clone(s.Draws)}
	s.Picks = append(s.Picks, 9, 9, 9, 9)
	if !slices.Equal(s.Draws, kept.Draws) {
		t.Errorf("10.6: the draws %v share memory with the picks", s.Draws)
	}
	s.Draws[0], kept.Picks[0] = 8, 8
	if again, _ := script.Decode(text); !sameScript(again, want) {
		t.Errorf("10.6: Decode(%q) = %v behind a write", text, again)
	}
}
