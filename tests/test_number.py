import itertools
import unittest

from calls import ALL_BASES, AROUND_THE_EDGE, DIGITS, LEAST_LONG, MOST_LONG, NO_BASES, CallCase, of
from shorttextsdesk.texts import number


class NumberTest(CallCase):
    def reads(self, base, t, value):
        self.check(number, (base, of(t)), [0, value])

    def refuses(self, base, t, refusal):
        self.check(number, (base, of(t)), [refusal])

    def test_ordinary_numbers(self):
        self.reads(10, "7", 7)
        self.reads(10, "123", 123)
        self.reads(10, "+123", 123)
        self.reads(10, "-123", -123)
        self.reads(2, "1011", 11)
        self.reads(2, "-1011", -11)
        self.reads(16, "ff", 255)
        self.reads(16, "+1000", 4096)
        self.reads(35, "yy", 1224)
        self.reads(36, "zz", 1295)
        self.reads(36, "10", 36)

    def test_each_base(self):
        for base in ALL_BASES:
            self.reads(base, "10", base)
            self.reads(base, "-101", -base * base - 1)

    def test_another_base_is_refused(self):
        for base in NO_BASES:
            self.refuses(base, "1", -2)
            self.refuses(base, "0", -2)
            self.refuses(base, "-10", -2)

    def test_the_base_is_refused_ahead_of_the_text(self):
        for base in NO_BASES:
            for t in ("", "+", "-", "x y", "1-", "--1", "\xff", "9" * 31, "z" * 31):
                self.refuses(base, t, -2)

    def test_no_digit(self):
        for base in ALL_BASES:
            for t in ("", "+", "-"):
                self.refuses(base, t, -3)

    def test_two_signs(self):
        for signs in ("++", "--", "+-", "-+", "---"):
            self.refuses(10, signs, -3)
            self.refuses(10, signs + "1", -3)
            self.refuses(36, signs + "1", -3)

    def test_a_sign_behind_a_digit(self):
        for t in ("1+", "1-", "1+1", "1-1", "+1+", "-1-", "-1+", "0-"):
            self.refuses(10, t, -3)
            self.refuses(36, t, -3)

    def test_digits_from_the_base_on(self):
        for base in ALL_BASES:
            below = DIGITS[base - 1]
            self.reads(base, below, base - 1)
            self.reads(base, "-" + below, 1 - base)
            self.reads(base, "1" + below + "0", (2 * base - 1) * base)
            for digit in DIGITS[base:]:
                for form in (digit, digit.upper()):
                    for t in (form, "+" + form, "-" + form, "1" + form, form + "1", "1" + form + "1"):
                        self.refuses(base, t, -3)

    def test_letters_small_and_capital(self):
        for worth in range(10, 36):
            for form in (DIGITS[worth], DIGITS[worth].upper()):
                self.reads(36, form, worth)
                self.reads(worth + 1, form, worth)
        self.reads(16, "aBcDeF", 0xABCDEF)
        self.reads(16, "AbCdEf", 0xABCDEF)
        self.reads(36, "zZ", 1295)

    def test_bytes_beside_the_digits_and_letters(self):
        for byte in (47, 58, 64, 91, 96, 123):
            for base in ALL_BASES:
                for t in ([byte], [45, byte], [byte, 49], [49, byte], [49, byte, 49]):
                    self.check(number, (base, t), [-3])

    def test_each_byte(self):
        for byte, base in itertools.product(range(256), ALL_BASES):
            worth = DIGITS.find(bytes([byte]).lower().decode("latin-1"))
            wanted = [0, worth] if 0 <= worth < base else [-3]
            self.assertEqual(number(base, [byte]), wanted, (base, byte))
            # Within a number a sign is no digit, so it is refused there too.
            wanted = [0, base + worth] if 0 <= worth < base else [-3]
            self.assertEqual(number(base, [49, byte]), wanted, (base, byte))

    def test_other_forms_are_no_numbers(self):
        for t in (" 1", "1 ", "+ 1", "1_0", "1.0", "1,0", "\t1", "1\n", "1\0", "\0", "\xb2", "1e3"):
            self.refuses(10, t, -3)
        for base, t in ((16, "0x1f"), (2, "0b2"), (8, "0o7"), (16, "1h")):
            self.refuses(base, t, -3)
        self.reads(16, "0b1", 0xB1)

    def test_zeros_at_the_front(self):
        self.reads(10, "007", 7)
        self.reads(10, "-007", -7)
        self.reads(10, "+0010", 10)
        self.reads(16, "00fF", 255)
        self.reads(10, "0" * 30 + "9", 9)
        self.reads(10, "-" + "0" * 29 + "9", -9)
        self.reads(10, "0" * 12 + "9223372036854775807", MOST_LONG)
        self.refuses(10, "0" * 12 + "9223372036854775808", -7)

    def test_zero(self):
        for base in ALL_BASES:
            for t in ("0", "+0", "-0", "000", "-000", "0" * 31, "-" + "0" * 30):
                self.reads(base, t, 0)

    def test_around_the_edge(self):
        for base, (most, behind, further) in AROUND_THE_EDGE.items():
            for form in (str.lower, str.upper):
                self.reads(base, form(most), MOST_LONG)
                self.reads(base, form("+" + most), MOST_LONG)
                self.reads(base, form("-" + most), -MOST_LONG)
                self.refuses(base, form(behind), -7)
                self.refuses(base, form("+" + behind), -7)
                self.reads(base, form("-" + behind), LEAST_LONG)
                self.refuses(base, form(further), -7)
                self.refuses(base, form("-" + further), -7)

    def test_31_digits(self):
        self.reads(2, "1" * 31, 2147483647)
        self.reads(2, "-" + "1" * 30, -1073741823)
        self.reads(2, "1" + "0" * 30, 1073741824)
        self.reads(3, "2" * 31, 617673396283946)
        self.reads(4, "3" * 31, 4611686018427387903)
        self.reads(4, "-" + "3" * 30, -1152921504606846975)
        for base in range(5, 37):
            self.refuses(base, DIGITS[base - 1] * 31, -7)
            self.refuses(base, "-" + DIGITS[base - 1] * 30, -7)
            self.refuses(base, "1" + "0" * 30, -7)

    def test_far_too_many_and_back_in_range_were_they_cut_off(self):
        # 2^64, 2^64 + 5 and 2^64 - 1: in 64 bits they would be 0, 5 and -1.
        for t in ("18446744073709551616", "18446744073709551621", "18446744073709551615"):
            self.refuses(10, t, -7)
            self.refuses(10, "-" + t, -7)

    def test_no_number_goes_ahead_of_too_large(self):
        for sign in ("x", "a", "-", "+", " ", "\0"):
            self.refuses(10, "9" * 30 + sign, -3)
            self.refuses(10, "-" + "9" * 29 + sign, -3)
            self.refuses(10, "9" * 25 + sign + "1", -3)
        self.refuses(10, "x" + "9" * 30, -3)
        self.refuses(36, "z" * 30 + "{", -3)
        self.refuses(35, "y" * 30 + "z", -3)

    def test_all_short_texts(self):
        for long_t in range(5):
            for signs in itertools.product("+-01aA ", repeat=long_t):
                t = "".join(signs)
                bare = t[1:] if t[:1] in ("+", "-") else t
                for base in (2, 10, 11, 16):
                    allowed = DIGITS[:base] + DIGITS[:base].upper()
                    good = bare != "" and all(sign in allowed for sign in bare)
                    wanted = [0, int(t, base)] if good else [-3]
                    self.assertEqual(number(base, of(t)), wanted, (base, t))


if __name__ == "__main__":
    unittest.main()
