import itertools
import unittest

from calls import LEAST, MOST, CallCase, of, texts_answer
from shorttextsdesk.texts import split


class SplitTest(CallCase):
    def splits(self, t, *wanted):
        self.check(split, (44, of(t)), texts_answer([of(piece) for piece in wanted]))

    def test_several_pieces(self):
        self.check(split, (44, of("ab,c")), [2, 2, 97, 98, 1, 99])
        self.splits("a,b", "a", "b")
        self.splits("ab,cde,f", "ab", "cde", "f")
        self.splits("a" * 15 + "," + "b" * 15, "a" * 15, "b" * 15)

    def test_another_c_is_refused(self):
        for c in (-1, 256, LEAST, MOST, -44, -256, 257, 300, LEAST + 44, 65536):
            for t in ([], [44], [1, 44, 2], [255], [0], [0] * 31):
                self.check(split, (c, t), [-2])

    def test_c_0_and_255(self):
        self.check(split, (0, [1, 0, 255]), [2, 1, 1, 1, 255])
        self.check(split, (0, [0]), [2, 0, 0])
        self.check(split, (0, []), [1, 0])
        self.check(split, (255, [1, 255, 0, 254]), [2, 1, 1, 2, 0, 254])
        self.check(split, (255, [255]), [2, 0, 0])
        self.check(split, (255, []), [1, 0])

    def test_each_c(self):
        for c in range(256):
            self.check(split, (c, [c]), [2, 0, 0])
            other = 255 - c
            self.check(split, (c, [other, c, other]), [2, 1, other, 1, other])
            self.check(split, (c, [other]), [1, 1, other])

    def test_the_empty_text(self):
        self.check(split, (44, []), [1, 0])

    def test_t_without_c(self):
        self.splits("a", "a")
        self.splits("abc", "abc")
        self.splits("a" * 31, "a" * 31)
        self.check(split, (97, of("A")), [1, 1, 65])

    def test_c_at_the_front(self):
        self.splits(",a", "", "a")
        self.splits(",,a", "", "", "a")
        self.splits("," + "a" * 30, "", "a" * 30)

    def test_c_at_the_end(self):
        self.splits("a,", "a", "")
        self.splits("a,,", "a", "", "")
        self.splits("a" * 30 + ",", "a" * 30, "")

    def test_c_at_both_ends(self):
        self.splits(",a,", "", "a", "")
        self.splits(",a,b,", "", "a", "b", "")

    def test_c_twice_behind_one_another(self):
        self.splits("a,,b", "a", "", "b")
        self.splits("a,,,b", "a", "", "", "b")

    def test_c_alone(self):
        self.splits(",", "", "")
        self.splits(",,", "", "", "")
        self.check(split, (44, [44] * 31), [32] + [0] * 32)
        self.check(split, (0, [0] * 31), [32] + [0] * 32)

    def test_pieces_alike(self):
        self.splits("a,a,a", "a", "a", "a")
        self.check(split, (7, [1, 7] * 15 + [1]), [16] + [1, 1] * 16)

    def test_all_short_texts(self):
        for long_t in range(7):
            for t in itertools.product((0, 1, 2), repeat=long_t):
                for c in range(4):
                    wanted = [list(piece) for piece in bytes(t).split(bytes([c]))]
                    self.check(split, (c, list(t)), texts_answer(wanted))


if __name__ == "__main__":
    unittest.main()
