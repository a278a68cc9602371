import itertools
import math
import unittest

from exactlutes.intervals import is_interval
from support import GREATEST, LEAST, GuardedList, check_answer


class IsInterval(unittest.TestCase):
    def check_all(self, lists, expected):
        for x in lists:
            with self.subTest(x=x):
                check_answer(self, is_interval(x), expected)

    def test_ordinary_intervals(self):
        self.check_all([
            [1, 0, 0, 0, 1],
            [-1, 1, 0, 0, 1],
            [7, 0, 0, 0, 12],
            [0, 0, 1, 0, 4],
            [-4, 4, -1, 0, 1],
            [6, -2, 0, -1, 1],
            [2, 4, 6, 8, 3],
            [2, 4, 6, 9, 4],
            [0, 0, 0, -5, 24],
        ], [1])

    def test_unison(self):
        self.check_all([[0, 0, 0, 0, 1]], [1])

    def test_unison_told_with_another_d(self):
        self.check_all([[0, 0, 0, 0, d] for d in range(-30, 31) if d != 1], [0])

    def test_other_lengths(self):
        self.check_all([[], [1], [1, 1], [1, 0, 1], [1, 0, 0, 1], [0, 0, 0, 1]], [0])
        self.check_all([
            [1, 0, 0, 0, 1, 1],
            [1, 0, 0, 0, 1, 0],
            [0, 1, 0, 0, 0, 1],
            [1, 0, 0, 0, 1, 0, 0],
            [1, 0, 0, 0, 1, 0, 0, 0],
            [1, 1, 1, 1, 1, 1, 1, 1],
            [GREATEST] * 8,
            [LEAST] * 8,
        ], [0])
        self.check_all([[1] * length for length in range(9) if length != 5], [0])
        self.check_all([[0] * length for length in range(9)], [0])

    def test_edges_of_the_powers(self):
        for place in range(4):
            for power, expected in ((99, [1]), (-99, [1]), (100, [0]), (-100, [0]), (101, [0]), (-101, [0])):
                for d in (1, 23):
                    x = [0, 0, 0, 0, d]
                    x[place] = power
                    self.check_all([x], expected)
        self.check_all([[99, 99, 99, 99, 1], [-99, -99, -99, -99, 1], [99, -99, 99, -99, 23]], [1])

    def test_edges_of_d(self):
        self.check_all([[1, 0, 0, 0, d] for d in range(1, 25)], [1])
        self.check_all([[1, 0, 0, 0, d] for d in (0, -1, -2, -24, -25, 25, 26, 100)], [0])
        self.check_all([[0, 0, 0, 0, 0], [-1, 0, 0, 0, -1]], [0])

    def test_common_factor(self):
        self.check_all([
            [2, 0, 0, 0, 2],
            [2, 4, 6, 8, 2],
            [0, 0, 0, -3, 3],
            [0, 12, 0, 0, 24],
            [-99, 99, -99, 99, 3],
            [22, -33, 44, -55, 11],
            [23, 0, 0, 0, 23],
            [-6, 10, 14, 22, 24],
        ], [0])
        # Any two or more of them may share one, as long as not all five do.
        self.check_all([
            [6, 10, 15, 0, 1],
            [6, 10, 15, 0, 12],
            [2, 2, 2, 2, 1],
            [2, 2, 2, 3, 2],
            [3, 2, 2, 2, 2],
            [6, 10, 15, 30, 24],
        ], [1])

    def test_greatest_and_least_numbers(self):
        for place in range(5):
            for number in (LEAST, LEAST + 1, GREATEST - 1, GREATEST):
                x = [1, 1, 1, 1, 1]
                x[place] = number
                self.check_all([x], [0])
        self.check_all([[LEAST] * 5, [GREATEST] * 5, [LEAST, GREATEST, LEAST, GREATEST, 1]], [0])

    def test_every_list_of_a_grid(self):
        powers = (-100, -99, -6, -1, 0, 1, 2, 3, 99, 100)
        for five in itertools.product(powers, powers, (-4, 0, 6), (-9, 0, 4), range(-1, 27)):
            fits = all(-99 <= power <= 99 for power in five[:4]) and 1 <= five[4] <= 24
            expected = [1] if fits and math.gcd(*five) == 1 else [0]
            if is_interval(list(five)) != expected:
                self.fail(f"{five} should be answered {expected}")

    def test_what_is_handed_in_stays(self):
        for numbers in ([7, 0, 0, 0, 12], [2, 0, 0, 0, 2], [100, 0, 0, 0, 1], [], [1] * 8):
            x = GuardedList(numbers)
            is_interval(x)
            self.assertEqual(list(x), numbers)

    def test_a_second_call_answers_as_the_first(self):
        for x, expected in (([7, 0, 0, 0, 12], [1]), ([6, 0, 0, 0, 12], [0]), ([0, 0, 0, 0, 1], [1]), ([], [0])):
            first = is_interval(x)
            check_answer(self, first, expected)
            # A caller may do with an answer as it likes.
            first.append(5)
            first[0] = 9
            is_interval([1, 0, 0, 0, 1])
            is_interval([1, 2])
            check_answer(self, is_interval(x), expected)

    def test_the_same_list_changed_between_two_calls(self):
        x = [7, 0, 0, 0, 12]
        check_answer(self, is_interval(x), [1])
        x[0] = 6
        check_answer(self, is_interval(x), [0])


if __name__ == "__main__":
    unittest.main()
