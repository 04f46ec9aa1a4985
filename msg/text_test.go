package msg

import (
	"math/rand"
	"strings"
	"testing"

	"portage/api"
)

// P13.2: Text, Parse

func TestText(t *testing.T) {
	for _, x := range []struct {
		i    api.Id
		want string
	}{
		{api.Id{Origin: 1, Dest: 2, Epoch: 3, Counter: 4}, "1>2:3.4"},
		{api.Id{Origin: 0, Dest: 1, Epoch: 1, Counter: 1}, "0>1:1.1"},
		{api.Id{Origin: 1, Dest: 0, Epoch: 1, Counter: 1}, "1>0:1.1"},
		{api.Id{Origin: 63, Dest: 62, Epoch: 65535, Counter: 65535}, "63>62:65535.65535"},
		{api.Id{Origin: 62, Dest: 63, Epoch: 65535, Counter: 1}, "62>63:65535.1"},
		{api.Id{Origin: 10, Dest: 20, Epoch: 100, Counter: 1000}, "10>20:100.1000"},
		{api.Id{Origin: 9, Dest: 10, Epoch: 10000, Counter: 60000}, "9>10:10000.60000"},
	} {
		if s, e := Text(x.i); e != api.OK || s != x.want {
			t.Errorf("Text(%+v): %q %d, not %q", x.i, s, e, x.want)
		}
		if i, e := Parse(x.want); e != api.OK || i != x.i {
			t.Errorf("Parse(%q): %+v %d, not %+v", x.want, i, e, x.i)
		}
	}
}

func TestTextOfManyIds(t *testing.T) {
	for _, i := range append(allIds(), rightIds()...) {
		checkText(t, i)
	}
}

func TestTextRefusesByTheErrorNamedFirst(t *testing.T) {
	for _, x := range []struct {
		i    api.Id
		want api.Errno
	}{
		{api.Id{}, api.ErrRange},
		{api.Id{Origin: 5, Dest: 5, Epoch: 0, Counter: 1}, api.ErrRange},
		{api.Id{Origin: 64, Dest: 64, Epoch: 1, Counter: 1}, api.ErrRange},
		{api.Id{Origin: -1, Dest: 2, Epoch: 1, Counter: 1}, api.ErrRange},
		{api.Id{Origin: 5, Dest: 5, Epoch: 1, Counter: 1}, api.ErrForm},
	} {
		if s, e := Text(x.i); e != x.want || s != "" {
			t.Errorf("%+v: %q %d, not %d", x.i, s, e, x.want)
		}
	}
}

func TestParseOfTextsThatAreNoIds(t *testing.T) {
	for _, s := range []string{
		"",
		" ",
		"1", "1>", "1>2", "1>2:", "1>2:3", "1>2:3.", // just its beginning
		">2:3.4", "2:3.4", ":3.4", "3.4", ".4", // just its end
		">:.",
		"1>:3.4", "1>2:.4", "0>1:1.", ">1:1.1", "1>2:3.", // an empty number
		"01>2:3.4", "1>02:3.4", "1>2:03.4", "1>2:3.04", "00>2:3.4", "1>00:3.4", "1>2:00003.4", "1>2:3.00000004", // noughts ahead
		"+1>2:3.4", "1>+2:3.4", "1>2:+3.4", "1>2:3.+4", // a sign
		"-1>2:3.4", "1>-2:3.4", "1>2:-3.4", "1>2:3.-4", "-0>2:3.4", "1>-0:3.4", "1>2:-0.4", "1>2:3.-0",
		" 1>2:3.4", "1 >2:3.4", "1> 2:3.4", "1>2 :3.4", "1>2: 3.4", "1>2:3 .4", "1>2:3. 4", "1>2:3.4 ", // a space
		"\t1>2:3.4", "1>2:3.4\n", "1>2:3.4\r\n", "\n1>2:3.4", "1>2:3.4\x00", "\x001>2:3.4", "1\x00>2:3.4",
		"1<2:3.4", "1-2:3.4", "1=2:3.4", "1:2:3.4", "1.2:3.4", "1?2:3.4", // another sign in the place of >
		"1>2;3.4", "1>2.3.4", "1>2>3.4", "1>2/3.4", // of :
		"1>2:3,4", "1>2:3:4", "1>2:3>4", "1>2:3/4", "1>2:3-4", "1>2:3 4", // of the full stop
		"12:3.4", "1>23.4", "1>2:34", "1234", // one is missing
		"1>>2:3.4", "1>2::3.4", "1>2:3..4", "1>2:3.4.", "1>2:3.4>", "1>2:3.4:", "1>1>2:3.4", "1>2:3:3.4", "1>2:3.4.5", // one is there twice
		"1:2>3.4", "1.2:3>4", "1>2.3:4", "1:2.3>4", "1.2>3:4", // another order
		">1:2.34", ">:.1234", "1234>:.",
		"64>2:3.4", "1>64:3.4", "100>2:3.4", "255>2:3.4", "256>2:3.4", "257>2:3.4", "1>258:3.4", // nodes out of their range
		"1>2:0.4", "1>2:3.0", "1>2:65536.4", "1>2:3.65536", "1>2:65537.4", "1>2:3.65537", "1>2:65539.4", "1>2:99999.4", "1>2:3.100000",
		"1>1:3.4", "0>0:1.1", "63>63:65535.65535", "1>1:1.1", // its own destination
		"64>64:1.1", "0>0:0.0",
		"4294967297>2:3.4", "1>4294967298:3.4", "1>2:4294967299.4", "1>2:3.4294967300", // right ones, but for 2^32
		"9223372036854775807>2:3.4", "1>2:9223372036854775808.4",
		"18446744073709551617>2:3.4", "1>18446744073709551618:3.4", "1>2:18446744073709551619.4", "1>2:3.18446744073709551620", // but for 2^64
		"340282366920938463463374607431768211457>2:3.4", "1>2:3.340282366920938463463374607431768211460", // but for 2^128
		"0x1>2:3.4", "1>2:0x3.4", "1>2:3.4e0", "1e0>2:3.4", "1>2:1_0.4", "1>2:1'0.4", "1>2:3.a", "a>b:c.d", "1>2:3f.4", "0b1>2:3.4", "0o1>2:3.4",
		"\u0661>2:3.4", "1>\u0662:3.4", "1>2:\u0663.4", "1>2:3.\u0664", // digits, but no ASCII ones
		"\uff11>2:3.4", "1>\uff12:3.4", "1>2:3.\uff14", "\u00b9>2:3.4", "1>2:3.4\u00b9",
		"1\uff1e2:3.4", "1>2\uff1a3.4", "1>2:3\uff0e4", "1\u203a2:3.4", // signs alike
		"\ufeff1>2:3.4", "\u00a01>2:3.4", "1>2:3.4\u2003",
		"\xff", "\xff1>2:3.4", "1\xff>2:3.4", "1>2:3.4\xff", "\xb1>2:3.4", "1\xbe2:3.4", "\xc0\xb1>2:3.4", "\x80\x81\x82", // no text at all
		"1>2:3.4 5>6:7.8", "1>2:3.41>2:3.4", "1>2:3.4,", "(1>2:3.4)", "\"1>2:3.4\"", "x1>2:3.4", "1>2:3.4x",
	} {
		if i, e := Parse(s); e != api.ErrForm || (i != api.Id{}) {
			t.Errorf("Parse(%q): %+v %d", s, i, e)
		}
		checkParse(t, s)
	}
}

func TestParseOfNumbersAtTheirEdges(t *testing.T) {
	met := 0
	for _, n := range []string{"0", "1", "2", "9", "10", "62", "63", "64", "65", "99", "100", "255", "256", "999", "1000", "9999", "10000", "65534", "65535", "65536", "65537", "65599", "99999", "100000", "655350", "655351", "131071"} {
		for _, text := range []string{n + ">5:3.4", "5>" + n + ":3.4", "1>2:" + n + ".4", "1>2:3." + n, "1>2:" + n + "." + n, n + ">" + n + ":1.1"} {
			if checkParse(t, text) {
				met++
			}
		}
	}
	if met == 0 {
		t.Error("none was met")
	}
}

func TestParseOfManyDigits(t *testing.T) {
	for _, count := range []int{5, 6, 7, 10, 18, 19, 20, 21, 39, 40, 1000, 1 << 20} {
		for _, digit := range []string{"0", "1", "6", "9"} {
			n := strings.Repeat(digit, count)
			for _, text := range []string{n + ">2:3.4", "1>" + n + ":3.4", "1>2:" + n + ".4", "1>2:3." + n, n} {
				if count < 1000 {
					checkParse(t, text)
				}
				if digit == "1" && count == 5 { // in the range of an epoch
					continue
				}
				if i, e := Parse(text); e != api.ErrForm || (i != api.Id{}) {
					t.Errorf("Parse(%.20q), %d digits: %+v %d", text, count, i, e)
				}
			}
		}
		if i, e := Parse(strings.Repeat("0", count) + "1>2:3.4"); e != api.ErrForm || (i != api.Id{}) {
			t.Errorf("%d noughts ahead: %+v %d", count, i, e)
		}
	}
}

func TestParseOfLongTexts(t *testing.T) {
	for _, s := range []string{">", ":", ".", " ", "x", "\xff", "1>2:3.4", "1>"} {
		long := strings.Repeat(s, 1<<18)
		for _, text := range []string{long, "1>2:3.4" + long, long + "1>2:3.4"} {
			if i, e := Parse(text); e != api.ErrForm || (i != api.Id{}) {
				t.Errorf("Parse(%.20q): %+v %d", text, i, e)
			}
		}
	}
}

// TestParseOfOneByteUnlike lays each byte in the place of, ahead of and behind each byte of right texts, and takes each byte out.
func TestParseOfOneByteUnlike(t *testing.T) {
	met := 0
	for _, right := range []string{"1>2:3.4", "0>10:1.10", "63>62:65535.65535", "6>3:6553.5", "10>20:100.1000"} {
		for at := 0; at <= len(right); at++ {
			ahead, behind := right[:at], right[at:]
			for b := range 256 {
				sign := string([]byte{byte(b)})
				if checkParse(t, ahead+sign+behind) {
					met++
				}
				if behind != "" && checkParse(t, ahead+sign+behind[1:]) {
					met++
				}
			}
			if behind != "" {
				checkParse(t, ahead+behind[1:])
			}
			checkParse(t, ahead)
			checkParse(t, behind)
			checkParse(t, behind+ahead)
		}
	}
	if met == 0 {
		t.Error("none was met")
	}
}

func TestParseOfAnySigns(t *testing.T) {
	const signs = "00112345669>:.>:.-+ x"
	r := rand.New(rand.NewSource(17))
	met := 0
	for range 200000 {
		text := make([]byte, r.Intn(20))
		for at := range text {
			text[at] = signs[r.Intn(len(signs))]
		}
		checkParse(t, string(text))
	}
	for range 50000 { // numbers between the right signs
		var text strings.Builder
		for _, sign := range []string{">", ":", ".", ""} {
			for range 1 + r.Intn(3) {
				text.WriteByte(byte('0' + r.Intn(10)))
			}
			text.WriteString(sign)
		}
		if checkParse(t, text.String()) {
			met++
		}
	}
	if met == 0 {
		t.Error("none was met")
	}
}

// P13.3

func TestParseOfText(t *testing.T) {
	for _, i := range rightIds() {
		s, e := Text(i)
		if e != api.OK || s != written(i) {
			t.Fatalf("%+v: %q %d", i, s, e)
		}
		got, e := Parse(s)
		if e != api.OK || got != i {
			t.Errorf("%q: %+v %d", s, got, e)
		}
		if again, e := Text(got); e != api.OK || again != s {
			t.Errorf("%q: %q %d", s, again, e)
		}
	}
}

func TestParseOfTextOfEachNumber(t *testing.T) {
	check := func(i api.Id) {
		s, _ := Text(i)
		if got, e := Parse(s); e != api.OK || got != i {
			t.Errorf("%+v: %q, %+v %d", i, s, got, e)
		}
	}
	for n := range nodes {
		for m := range nodes {
			if n != m {
				check(api.Id{Origin: n, Dest: m, Epoch: 1, Counter: 1})
			}
		}
	}
	for n := 1; n <= most; n++ {
		check(api.Id{Origin: 1, Dest: 2, Epoch: n, Counter: 7})
		check(api.Id{Origin: 63, Dest: 2, Epoch: 7, Counter: n})
	}
}

func TestUnlikeIdsHaveUnlikeTexts(t *testing.T) {
	met := map[string]api.Id{}
	for _, i := range rightIds() {
		s, _ := Text(i)
		if other, ok := met[s]; ok {
			t.Errorf("%q: of %+v and of %+v", s, other, i)
		}
		met[s] = i
	}
}
