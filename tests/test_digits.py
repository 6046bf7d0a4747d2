import unittest

from calls import ALL_BASES, AROUND_THE_EDGE, DIGITS, LEAST_LONG, MOST_LONG, NO_BASES, CallCase, of, text_answer
from shorttextsdesk.texts import digits, number


class DigitsTest(CallCase):
    def writes(self, v, base, wanted):
        self.check(digits, (v, base), text_answer(of(wanted)))

    def test_ordinary_numbers(self):
        self.writes(123, 10, "123")
        self.writes(-123, 10, "-123")
        self.writes(11, 2, "1011")
        self.writes(-11, 2, "-1011")
        self.writes(255, 16, "ff")
        self.writes(-255, 16, "-ff")
        self.writes(0xABCDEF, 16, "abcdef")
        self.writes(4096, 16, "1000")
        self.writes(1224, 35, "yy")
        self.writes(1295, 36, "zz")
        self.writes(-1295, 36, "-zz")

    def test_another_base_gives_the_empty_text(self):
        for base in NO_BASES:
            for v in (0, 1, -1, 255, LEAST_LONG, MOST_LONG):
                self.check(digits, (v, base), [0])

    def test_zero(self):
        for base in ALL_BASES:
            self.writes(0, base, "0")

    def test_one_digit(self):
        for base in ALL_BASES:
            for v in range(1, base):
                self.writes(v, base, DIGITS[v])
                self.writes(-v, base, "-" + DIGITS[v])

    def test_from_the_base_on(self):
        for base in ALL_BASES:
            self.writes(base, base, "10")
            self.writes(-base, base, "-10")
            self.writes(base + 1, base, "11")
            self.writes(base * base - 1, base, DIGITS[base - 1] * 2)
            self.writes(base * base, base, "100")

    def test_minus_one(self):
        for base in ALL_BASES:
            self.writes(-1, base, "-1")

    def test_zeros_within(self):
        self.writes(1001, 10, "1001")
        self.writes(-100, 10, "-100")
        self.writes(0x10A0, 16, "10a0")

    def test_the_least_and_the_greatest_long_cut(self):
        self.writes(MOST_LONG, 2, "1" * 31)
        self.writes(LEAST_LONG, 2, "-1" + "0" * 29)
        self.writes(MOST_LONG, 3, "2021110011022210012102010021220")
        self.writes(LEAST_LONG, 3, "-202111001102221001210201002122")
        self.writes(MOST_LONG, 4, "1" + "3" * 30)
        self.writes(LEAST_LONG, 4, "-2" + "0" * 29)

    def test_the_least_and_the_greatest_long_whole(self):
        for base, (most, behind, further) in AROUND_THE_EDGE.items():
            self.writes(MOST_LONG, base, most)
            self.writes(-MOST_LONG, base, "-" + most)
            self.writes(LEAST_LONG, base, "-" + behind)

    def test_around_31_bytes(self):
        self.writes(2 ** 31 - 1, 2, "1" * 31)
        self.writes(2 ** 31, 2, "1" + "0" * 30)
        self.writes(2 ** 31 + 1, 2, "1" + "0" * 30)
        self.writes(2 ** 32 - 1, 2, "1" * 31)
        self.writes(-(2 ** 30 - 1), 2, "-" + "1" * 30)
        self.writes(-(2 ** 30), 2, "-1" + "0" * 29)
        self.writes(-(2 ** 29 + 1), 2, "-1" + "0" * 28 + "1")
        self.writes(-(2 ** 30 + 1), 2, "-1" + "0" * 29)
        self.writes(-(2 ** 31 - 1), 2, "-" + "1" * 30)
        self.writes(-(2 ** 31 + 1), 2, "-1" + "0" * 29)

    def test_beyond_what_a_float_holds(self):
        self.writes(2 ** 53 + 1, 10, "9007199254740993")
        self.writes(-(2 ** 62) - 1, 10, "-4611686018427387905")

    def test_number_reads_it_back(self):
        powers = (10 ** 18, 2 ** 62, 36 ** 12, 2 ** 31, 2 ** 30, 3 ** 30, 4 ** 30)
        edges = [power + more for power in powers for more in (-1, 0, 1)]
        values = list(range(1500)) + edges + [MOST_LONG]
        for base in ALL_BASES:
            for v in values + [-v for v in values] + [LEAST_LONG]:
                answer = digits(v, base)
                self.assertLessEqual(answer[0], 31)
                self.assertEqual(len(answer), answer[0] + 1)
                if base ** (31 if v >= 0 else 30) > abs(v):
                    self.assertEqual(number(base, answer[1:]), [0, v], (v, base))
                    self.assertEqual(int(bytes(answer[1:]), base), v)
                else:
                    self.assertEqual(answer[0], 31)

    def test_as_python_writes_it(self):
        for v in list(range(-300, 300)) + [7 ** power for power in range(22)] + [-(5 ** power) for power in range(28)]:
            for base, form in ((2, "b"), (8, "o"), (10, "d"), (16, "x")):
                self.writes(v, base, format(v, form)[:31])


if __name__ == "__main__":
    unittest.main()
