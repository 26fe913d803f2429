package lexer_test

import (
	"math"
	"math/big"
	"strconv"
	"strings"
	"testing"

	"skerry/api"
)

func wantNumber(t *testing.T, s string, n int) {
	t.Helper()
	wantLex(t, s, number(n, 0, len(s)), endAt(len(s)))
}

// P18.1: numbers of one digit and of many, above and below 0.
func TestNumbers(t *testing.T) {
	for n := range 2000 {
		wantNumber(t, strconv.Itoa(n), n)
		wantNumber(t, "-"+strconv.Itoa(n), -n)
	}
	n := 0
	for i := range 18 {
		n = 10*n + (i+1)%10
		wantNumber(t, strconv.Itoa(n), n)
		wantNumber(t, strconv.Itoa(-n), -n)
	}
	for bit := range 63 {
		for _, near := range []int{1<<bit - 1, 1 << bit, 1<<bit + 1} {
			wantNumber(t, strconv.Itoa(near), near)
			wantNumber(t, strconv.Itoa(-near), -near)
		}
	}
	wantNumber(t, "-0", 0)
	wantNumber(t, "-00", 0)
}

// P18.1: noughts ahead may be, and do not count.
func TestNoughts(t *testing.T) {
	for _, n := range []int{1, 2, 10, 40, 500} {
		noughts := strings.Repeat("0", n)
		wantNumber(t, noughts, 0)
		wantNumber(t, "-"+noughts, 0)
		wantNumber(t, noughts+"7", 7)
		wantNumber(t, "-"+noughts+"7", -7)
		wantNumber(t, noughts+"10", 10)
		wantNumber(t, noughts+"9223372036854775807", math.MaxInt)
		wantNumber(t, "-"+noughts+"9223372036854775808", math.MinInt)
		wantNumber(t, noughts+"_9223372036854775807", math.MaxInt)
		wantWrong(t, noughts+"9223372036854775808", 0)
		wantWrong(t, "-"+noughts+"9223372036854775809", 0)
	}
	wantLex(t, "0x10", number(0, 0, 1), name("x10", 1), endAt(4))
	wantLex(t, "0b1", number(0, 0, 1), name("b1", 1), endAt(3))
	wantNumber(t, "0_17", 17)
	wantNumber(t, "017", 17)
	wantNumber(t, "09", 9)
}

// P18.1: the ends of what an Int may be, with and without _; one more is wrong at the first byte, the - too.
func TestNumberEnds(t *testing.T) {
	for step := range 2000 {
		distance := big.NewInt(int64(step))
		greatest, least := big.NewInt(math.MaxInt), big.NewInt(math.MinInt)
		wantNumber(t, new(big.Int).Sub(greatest, distance).String(), math.MaxInt-step)
		wantNumber(t, new(big.Int).Add(least, distance).String(), math.MinInt+step)
		if step > 0 {
			wantWrong(t, new(big.Int).Add(greatest, distance).String(), 0)
			wantWrong(t, new(big.Int).Sub(least, distance).String(), 0)
		}
	}
	wantNumber(t, "9_223_372_036_854_775_807", math.MaxInt)
	wantNumber(t, "-9_223_372_036_854_775_808", math.MinInt)
	wantWrong(t, "9_223_372_036_854_775_808", 0)
	wantWrong(t, "-9_223_372_036_854_775_809", 0)
	for _, s := range []string{
		"9999999999999999999", "10000000000000000000", "18446744073709551615", "18446744073709551616", "18446744073709551617", "27670116110564327424",
		"92233720368547758070", "340282366920938463463374607431768211456", "1" + strings.Repeat("0", 400), strings.Repeat("9", api.MaxQuery-3),
	} {
		wantWrong(t, s, 0)
		wantWrong(t, "-"+s, 0)
		wantWrong(t, " \n"+s, 2)
		wantWrong(t, "\t-"+s, 1)
		wantWrong(t, s+" a", 0)
		wantLexNone(t, "a "+s, 2, api.ErrSyntax)
	}
}

// P18.1: a _ may be between two digits, and nowhere else.
func TestNumberLines(t *testing.T) {
	wantNumber(t, "1_2", 12)
	wantNumber(t, "1_000_000", 1000000)
	wantNumber(t, "1_2_3_4_5", 12345)
	wantNumber(t, "-1_0", -10)
	wantNumber(t, "0_0", 0)
	wantNumber(t, "-0_1", -1)
	for _, s := range []string{"1", "12", "1_2", "-1", "-1_2"} {
		n, _ := strconv.Atoi(strings.ReplaceAll(s, "_", ""))
		for _, behind := range []string{"_", "__", "__3", "_a", "_ 3", "_-3", "_'x'", "_\xff", "_é", "_\n3", "_--\n3", "_=", "___3"} {
			wantNext(t, s+behind, 0, number(n, 0, len(s)))
			wantNone(t, s+behind, len(s), len(s), api.ErrSyntax)
			wantLexNone(t, s+behind, len(s), api.ErrSyntax)
		}
	}
	wantNext(t, "1_2_", 0, number(12, 0, 3))
	wantNext(t, "1_2__3", 0, number(12, 0, 3))
	wantWrong(t, "_1", 0)
	wantWrong(t, "__1", 0)
	wantWrong(t, "-_1", 0)
	wantWrong(t, "_", 0)
}

// P18.1: a number ends with its digits, whatever is behind.
func TestBehindNumbers(t *testing.T) {
	wantLex(t, "5a", number(5, 0, 1), name("a", 1), endAt(2))
	wantLex(t, "5e3", number(5, 0, 1), name("e3", 1), endAt(3))
	wantLex(t, "12ABC_d", number(12, 0, 2), name("abc_d", 2), endAt(7))
	wantLex(t, "1_2a", number(12, 0, 3), name("a", 3), endAt(4))
	wantLex(t, "-5limit", number(-5, 0, 2), word("LIMIT", 2), endAt(7))
	wantLex(t, "1 2", number(1, 0, 1), number(2, 2, 3), endAt(3))
	wantLex(t, "1-2-3", number(1, 0, 1), number(-2, 1, 3), number(-3, 3, 5), endAt(5))
	wantLex(t, "-1-1", number(-1, 0, 2), number(-1, 2, 4), endAt(4))
	wantLex(t, "1,2", number(1, 0, 1), op(",", 1), number(2, 2, 3), endAt(3))
	for _, s := range []string{"5.", "5+", "5%", "5?", "5/", "5:", "5;", "5\x00", "5\xff", "5é", "5٣", "5５", "5\v", "5-", "5- 1", "5>"} {
		wantNext(t, s, 0, number(5, 0, 1))
		wantLexNone(t, s, 1, api.ErrSyntax)
	}
	wantWrong(t, "+5", 0)
	wantWrong(t, ".5", 0)
	wantWrong(t, "٣", 0)
	wantWrong(t, "５", 0)
}
