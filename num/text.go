package num

import (
	"strconv"
	"strings"

	"ramble/api"
)

// Text is a number's decimal digits, behind a - if it is below 0.
func Text(n int64) string { return strconv.FormatInt(n, 10) }

// Digits are the digits that Text has, the highest first, without the -.
func Digits(n int64) []int {
	text := strings.TrimPrefix(Text(n), "-")
	digits := make([]int, len(text))
	for i := range digits {
		digits[i] = int(text[i] - '0')
	}
	return digits
}

// Parse is the number whose Text s is; ErrNumber, if s is no Text of a whole number; ErrOver, if no int64 is that number.
func Parse(s string) (int64, api.Errno) {
	if !isNumber(s) {
		return 0, api.ErrNumber
	}
	n, err := strconv.ParseInt(s, 10, 64)
	if err != nil {
		// The form is right, so that only its room can be wanting.
		return 0, api.ErrOver
	}
	return n, api.OK
}

// isNumber tells whether s is in the one form: each number, however great, has one text.
func isNumber(s string) bool {
	digits := strings.TrimPrefix(s, "-")
	if !allDigits(digits) {
		return false
	}
	return digits[0] != '0' || s == "0"
}

func allDigits(s string) bool {
	for i := range len(s) {
		if s[i] < '0' || s[i] > '9' {
			return false
		}
	}
	return s != ""
}
