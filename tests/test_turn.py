import itertools
import unittest

from calls import CallCase, of, text_answer
from shorttextsdesk.texts import turn


class TurnTest(CallCase):
    def turned(self, t, wanted):
        self.check(turn, (of(t),), text_answer(of(wanted)))

    def test_the_empty_text(self):
        self.check(turn, ([],), [0])

    def test_one_byte(self):
        self.turned("a", "a")
        for byte in range(256):
            self.check(turn, ([byte],), [1, byte])

    def test_an_odd_number_of_bytes(self):
        self.turned("abc", "cba")
        self.turned("abcde", "edcba")

    def test_an_even_number_of_bytes(self):
        self.turned("ab", "ba")
        self.turned("abcd", "dcba")

    def test_not_put_in_order(self):
        self.turned("bdac", "cadb")

    def test_bytes_that_come_more_than_once(self):
        self.turned("aab", "baa")
        self.turned("abba", "abba")

    def test_the_longest_text(self):
        self.check(turn, (list(range(31)),), text_answer(list(range(30, -1, -1))))
        self.check(turn, (list(range(225, 256)),), text_answer(list(range(255, 224, -1))))
        self.check(turn, (list(range(30)),), text_answer(list(range(29, -1, -1))))

    def test_any_bytes(self):
        self.check(turn, ([0, 255, 128],), [3, 128, 255, 0])

    def test_all_short_texts(self):
        for long_t in range(6):
            for t in itertools.product((0, 1, 2), repeat=long_t):
                self.check(turn, (list(t),), text_answer([t[-1 - i] for i in range(long_t)]))


if __name__ == "__main__":
    unittest.main()
