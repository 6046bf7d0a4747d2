import itertools
import unittest

from calls import MOST, CallCase, of, text_answer
from shorttextsdesk.texts import trim


class TrimTest(CallCase):
    def trimmed(self, how, t, some, wanted):
        self.check(trim, (how, of(t), of(some)), text_answer(of(wanted)))

    def test_neither(self):
        self.trimmed(0, "  ab  ", " ", "  ab  ")

    def test_front(self):
        self.trimmed(1, "  ab  ", " ", "ab  ")
        self.trimmed(1, "ab  ", " ", "ab  ")

    def test_end(self):
        self.trimmed(2, "  ab  ", " ", "  ab")
        self.trimmed(2, "  ab", " ", "  ab")

    def test_both(self):
        self.trimmed(3, "  ab   ", " ", "ab")
        self.trimmed(3, "ab", " ", "ab")

    def test_only_the_two_lowest_bits_count(self):
        wanted = ("--ab-", "ab-", "--ab", "ab")
        for how in (4, 5, 6, 7, 8, 9, 10, 11, 255, 256, MOST - 3, MOST - 2, MOST - 1, MOST):
            self.trimmed(how, "--ab-", "-", wanted[how % 4])
        self.trimmed(2147483647, "--ab-", "-", "ab")
        self.trimmed(2147483644, "--ab-", "-", "--ab-")

    def test_a_set_of_several_bytes(self):
        self.trimmed(3, "xyyxabyx", "xy", "ab")
        self.trimmed(3, "xyyxabyx", "yx", "ab")
        self.trimmed(3, "xyyxabyx", "xyxy", "ab")
        self.trimmed(3, "xyabxy", "x", "yabxy")
        self.trimmed(3, "yabx", "xz", "yab")

    def test_all_bytes_in_the_set(self):
        for t in ("x", "xx", "xyxyx", "x" * 31):
            self.trimmed(0, t, "xy", t)
            for how in (1, 2, 3, 5, 6, 7, MOST):
                self.trimmed(how, t, "xy", "")

    def test_one_byte_is_left(self):
        self.trimmed(1, "xxa", "x", "a")
        self.trimmed(2, "axx", "x", "a")
        self.trimmed(3, "xxaxx", "x", "a")
        self.trimmed(3, "x" * 30 + "a", "x", "a")
        self.trimmed(3, "a" + "x" * 30, "x", "a")

    def test_the_empty_text(self):
        for how in (0, 1, 2, 3, 4, MOST):
            self.trimmed(how, "", "x", "")
            self.trimmed(how, "", "", "")

    def test_the_empty_set(self):
        for how in (0, 1, 2, 3, 4, MOST):
            self.trimmed(how, " ab ", "", " ab ")
            self.trimmed(how, "a" * 31, "", "a" * 31)
            self.check(trim, (how, [0, 7, 0], []), [3, 0, 7, 0])

    def test_bytes_in_the_midst_stay(self):
        for how in range(4):
            self.trimmed(how, "a b  c", " ", "a b  c")
        self.trimmed(3, " a b  c ", " ", "a b  c")

    def test_letters_differ_by_case(self):
        self.trimmed(3, "AabaA", "a", "AabaA")

    def test_any_bytes(self):
        self.check(trim, (3, [0, 255, 128, 7, 0, 128], [128, 0, 255]), [1, 7])
        self.check(trim, (3, [0, 1, 0], [1]), [3, 0, 1, 0])

    def test_all_short_texts(self):
        for long_t in range(6):
            for t in itertools.product((0, 1, 2), repeat=long_t):
                for some in ((), (0,), (1, 0), (2, 2)):
                    whole, away = bytes(t), bytes(some)
                    wanted = (whole, whole.lstrip(away), whole.rstrip(away), whole.strip(away))
                    for how in range(4):
                        self.check(trim, (how, list(t), list(some)), text_answer(list(wanted[how])))


if __name__ == "__main__":
    unittest.main()
