import itertools
import unittest
from fractions import Fraction

from exactlutes.intervals import is_interval, print_text
from support import (
    EQUAL_FIFTH, FIFTH, INTERVALS, NO_INTERVALS, OCTAVE, UNISON, GuardedList, check_answer, check_second_call,
)


def counted(text):
    """How many bytes the text has, then these."""
    return [len(text)] + list(text.encode("ascii"))


def expected_text(x):
    """The text that the document asks for, by the fractions' own lowest terms and texts."""
    powers = [(base, Fraction(power, x[4])) for base, power in zip("2357", x) if power != 0]
    return " ".join(base if power == 1 else f"{base}^{power}" for base, power in powers) or "1"


class PrintText(unittest.TestCase):
    def check_all(self, rows):
        for x, text in rows:
            with self.subTest(x=x):
                check_answer(self, print_text(x), counted(text))

    def test_count_and_bytes_as_they_stand(self):
        check_answer(self, print_text(UNISON), [1, 0x31])
        check_answer(self, print_text(OCTAVE), [1, 0x32])
        check_answer(self, print_text(FIFTH), [6, 0x32, 0x5E, 0x2D, 0x31, 0x20, 0x33])
        check_answer(self, print_text(EQUAL_FIFTH), [6, 0x32, 0x5E, 0x37, 0x2F, 0x31, 0x32])
        check_answer(self, print_text([0, 0, 1, 0, 4]), [5, 0x35, 0x5E, 0x31, 0x2F, 0x34])

    def test_the_unison(self):
        self.check_all([(UNISON, "1")])

    def test_one_factor(self):
        self.check_all([
            (OCTAVE, "2"), ([0, 1, 0, 0, 1], "3"), ([0, 0, 1, 0, 1], "5"), ([0, 0, 0, 1, 1], "7"),
            ([2, 0, 0, 0, 1], "2^2"), ([0, -1, 0, 0, 1], "3^-1"), ([0, 0, 99, 0, 1], "5^99"),
            ([0, 0, 0, -99, 1], "7^-99"), ([10, 0, 0, 0, 1], "2^10"), ([0, 90, 0, 0, 1], "3^90"),
            ([1, 0, 0, 0, 2], "2^1/2"), ([0, -1, 0, 0, 24], "3^-1/24"), ([0, 0, 99, 0, 10], "5^99/10"),
            ([0, 0, 0, -95, 24], "7^-95/24"), ([0, 3, 0, 0, 2], "3^3/2"), ([-1, 0, 0, 0, 20], "2^-1/20"),
        ])

    def test_two_and_three_factors(self):
        self.check_all([
            (FIFTH, "2^-1 3"), ([1, -1, 0, 0, 1], "2 3^-1"), ([-4, 4, -1, 0, 1], "2^-4 3^4 5^-1"),
            ([6, -2, 0, -1, 1], "2^6 3^-2 7^-1"), ([0, 0, 2, -3, 7], "5^2/7 7^-3/7"), ([1, 0, 0, 1, 1], "2 7"),
            ([0, 1, 1, 0, 1], "3 5"), ([0, 5, 0, 7, 12], "3^5/12 7^7/12"),
        ])

    def test_all_four_factors(self):
        self.check_all([
            ([1, 1, 1, 1, 1], "2 3 5 7"),
            ([-1, -1, -1, -1, 1], "2^-1 3^-1 5^-1 7^-1"),
            ([1, 1, 1, 1, 2], "2^1/2 3^1/2 5^1/2 7^1/2"),
            ([99, 99, 99, 99, 1], "2^99 3^99 5^99 7^99"),
            ([-99, -99, -99, -99, 23], "2^-99/23 3^-99/23 5^-99/23 7^-99/23"),
            ([12, -30, 18, 5, 8], "2^3/2 3^-15/4 5^9/4 7^5/8"),
        ])

    def test_each_power_in_lowest_terms_of_its_own(self):
        # The five numbers have no common factor, but a power and d alone have one.
        self.check_all([
            ([-19, 12, 0, 0, 12], "2^-19/12 3"),
            ([1, 2, 0, 0, 2], "2^1/2 3"),
            ([1, -2, 0, 0, 2], "2^1/2 3^-1"),
            ([24, 48, -24, 1, 24], "2 3^2 5^-1 7^1/24"),
            ([6, 4, 3, 1, 12], "2^1/2 3^1/3 5^1/4 7^1/12"),
            ([-6, -4, -3, -1, 12], "2^-1/2 3^-1/3 5^-1/4 7^-1/12"),
            ([18, 0, 0, 1, 12], "2^3/2 7^1/12"),
            ([2, 3, 0, 0, 6], "2^1/3 3^1/2"),
            ([10, 7, 0, 0, 20], "2^1/2 3^7/20"),
            ([96, -96, 0, 5, 24], "2^4 3^-4 7^5/24"),
        ])

    def test_every_power_and_d_of_one_factor(self):
        for place, d in itertools.product(range(4), range(1, 25)):
            for power in range(-99, 100):
                x = [0, 0, 0, 0, d]
                x[place] = power
                if is_interval(x) == [1] and print_text(x) != counted(expected_text(x)):
                    self.fail(f"the text of {x} should be {expected_text(x)}")

    def test_many_intervals(self):
        self.check_all([(x, expected_text(x)) for x in INTERVALS])
        grid = itertools.product((-99, -12, -1, 0, 24), (-30, 0, 1, 6), (-8, 0, 23), (-24, 0, 5), range(1, 25))
        for five in grid:
            x = list(five)
            if is_interval(x) == [1] and print_text(x) != counted(expected_text(x)):
                self.fail(f"the text of {x} should be {expected_text(x)}")

    def test_two_intervals_never_have_the_same_text(self):
        grid = itertools.product((-3, 0, 1, 2), (-2, 0, 1), (0, 4), (-1, 0, 6), range(1, 25))
        lists = [list(five) for five in grid if is_interval(list(five)) == [1]]
        self.assertEqual(len({tuple(print_text(x)) for x in lists}), len(lists))

    def test_no_interval(self):
        for x in NO_INTERVALS:
            check_answer(self, print_text(x), [-1])

    def test_what_is_handed_in_stays(self):
        for first in INTERVALS + NO_INTERVALS:
            x = GuardedList(first)
            print_text(x)
            self.assertEqual(list(x), first)

    def test_a_second_call_answers_as_the_first(self):
        for x, expected in ((FIFTH, counted("2^-1 3")), (UNISON, counted("1")), ([1, 2], [-1]), ([], [-1])):
            check_second_call(self, print_text, (x,), expected)

    def test_argument_by_name(self):
        check_answer(self, print_text(x=EQUAL_FIFTH), counted("2^7/12"))


if __name__ == "__main__":
    unittest.main()
